package core_test

import (
	"testing"

	"shard/api"
	"shard/core"
)

// owner is a host that has some of everything: host 1 of four.
func owner() api.HostState {
	s := start(wide(), 1)
	s.Table = []api.Segment{seg(0, 99, 0), seg(100, 999, 1), seg(1000, 1999, 2), seg(2000, top, 1)}
	s.Pairs = append(manyPairs(100, 33), manyPairs(500, 32)...)
	s.Pairs = append(s.Pairs, pair(3000, "lone"), pair(top, "last"))
	s.Sessions = []api.Session{sess(16, 4, api.StOK), sess(18, 2, api.StNoCredit)}
	s.Free, s.Spare = 10, 20
	return s
}

func TestP10_8EachStatus(t *testing.T) {
	for _, row := range []struct {
		m    api.Message
		want api.Status
	}{
		{shard(0, 9, 4, 0, 0), api.StNoHost}, {shard(100, 110, 15, 0, 0), api.StNoHost},
		{shard(100, 110, 1, 0, 0), api.StSelf},
		{shard(0, 9, 2, 0, 0), api.StNotOwner}, {shard(99, 100, 2, 0, 0), api.StNotOwner}, {shard(999, 1000, 2, 0, 0), api.StNotOwner},
		{shard(100, 3000, 2, 0, 0), api.StNotOwner}, {shard(0, top, 2, 0, 0), api.StNotOwner}, {shard(1500, 1500, 2, 0, 0), api.StNotOwner}, {shard(1500, 1500, 0, 0, 0), api.StNotOwner},
		{shard(100, 132, 2, 0, 0), api.StMany}, {shard(100, 999, 2, 0, 0), api.StMany},
		{shard(100, 131, 2, 11, 0), api.StNoCredit}, {shard(100, 131, 2, 65535, 0), api.StNoCredit},
		{shard(200, 300, 2, 10, 17), api.StNoBound}, {shard(200, 300, 2, 0, 65535), api.StNoBound},
		{shard(101, 131, 0, 0, 17), api.StNoBound}, {shard(100, 131, 0, 0, 19), api.StNoBound}, {shard(100, 131, 2, 0, 18), api.StNoBound},
	} {
		isDone(t, loadCore(t, wide(), owner()), row.m, row.want)
	}
}

// Each refusal, with all those that come behind it.
func TestP10_8FirstOfSeveral(t *testing.T) {
	s := owner()
	full := api.PeerState{Sent: 4}
	for range 4 {
		full.Queue = append(full.Queue, plain(0, 9))
	}
	s.End.Peers[2] = full
	n := loadCore(t, wide(), s)
	for _, row := range []struct {
		m    api.Message
		want api.Status
	}{
		{shard(0, 2000, 4, 65535, 65535), api.StNoHost},
		{shard(0, 2000, 1, 65535, 65535), api.StSelf},
		{shard(0, 2000, 2, 65535, 65535), api.StNotOwner},
		{shard(100, 999, 2, 65535, 65535), api.StMany},
		{shard(500, 999, 2, 65535, 65535), api.StNoCredit},
		{shard(500, 999, 2, 10, 65535), api.StNoBound},
		{shard(500, 999, 2, 10, 18), api.StQueue},
	} {
		isDone(t, n, row.m, row.want)
	}
	isState(t, n, s)
}

// sent is a Shard that is taken: its answer and what the host becomes.
func isHandedOn(t *testing.T, s api.HostState, m api.Message, want api.HostState) {
	t.Helper()
	n := loadCore(t, wide(), s)
	payload := want.End.Peers[m.Host].Queue[len(want.End.Peers[m.Host].Queue)-1]
	isApply(t, n, api.Admin, m, true,
		api.Out{To: m.Host, M: data(want.End.Peers[m.Host].Sent, payload)}, api.Out{To: api.Admin, M: done(m.Seq, api.StOK)})
	isState(t, n, want)
}

func TestP10_8Handed(t *testing.T) {
	for _, row := range []struct {
		m       api.Message
		table   []api.Segment
		spare   int
		first   int
		behind  int
		grantee int
	}{
		// In the middle: two cuts.
		{shard(120, 130, 3, 4, 5), []api.Segment{seg(0, 99, 0), seg(100, 119, 1), seg(120, 130, 3), seg(131, 999, 1), seg(1000, 1999, 2), seg(2000, top, 1)}, 20 - 5 - 2 - 2, 20, 31, 6},
		// At the lower edge, to another one than the neighbour: one cut.
		{shard(100, 130, 3, 0, 0), []api.Segment{seg(0, 99, 0), seg(100, 130, 3), seg(131, 999, 1), seg(1000, 1999, 2), seg(2000, top, 1)}, 20 - 2 - 1, 0, 31, 10},
		// At the lower edge, to the neighbour: the boundary moves.
		{shard(100, 130, 0, 10, 0), []api.Segment{seg(0, 130, 0), seg(131, 999, 1), seg(1000, 1999, 2), seg(2000, top, 1)}, 20 - 2, 0, 31, 0},
		// Up to the upper edge, with the highest key.
		{shard(2500, top, 3, 1, 1), []api.Segment{seg(0, 99, 0), seg(100, 999, 1), seg(1000, 1999, 2), seg(2000, 2499, 1), seg(2500, top, 3)}, 20 - 1 - 2 - 1, 65, 67, 9},
		// A whole segment, to the neighbour on one side: a boundary goes.
		{shard(2000, top, 2, 0, 3), []api.Segment{seg(0, 99, 0), seg(100, 999, 1), seg(1000, top, 2)}, 20 - 3 - 2 + 1, 65, 67, 10},
		// Just as many pairs as may go, and no pair at all.
		{shard(500, 600, 3, 0, 0), []api.Segment{seg(0, 99, 0), seg(100, 499, 1), seg(500, 600, 3), seg(601, 999, 1), seg(1000, 1999, 2), seg(2000, top, 1)}, 20 - 2 - 2, 33, 65, 10},
		{shard(700, 700, 3, 0, 16), []api.Segment{seg(0, 99, 0), seg(100, 699, 1), seg(700, 700, 3), seg(701, 999, 1), seg(1000, 1999, 2), seg(2000, top, 1)}, 0, 65, 65, 10},
	} {
		want := owner()
		moved := owner().Pairs[row.first:row.behind]
		want.Table, want.Spare, want.Free = row.table, row.spare, row.grantee
		want.Pairs = append(owner().Pairs[:row.first:row.first], owner().Pairs[row.behind:]...)
		payload := delegation(row.m.Key, row.m.Hi, row.m.Grant, row.m.Bounds, moved, want.Sessions)
		want.End.Peers[row.m.Host] = api.PeerState{Sent: 1, Queue: [][]byte{payload}}
		isHandedOn(t, owner(), row.m, want)
	}
}

// A cost below 0 counts: the last segment of a host may go to its neighbours without a credit of its own beside.
func TestP10_8CostBelowZero(t *testing.T) {
	s := start(wide(), 1)
	s.Table = []api.Segment{seg(0, 9, 0), seg(10, 19, 1), seg(20, top, 0)}
	s.Spare = 0
	want := start(wide(), 1)
	want.Spare = 0
	want.End.Peers[0] = api.PeerState{Sent: 1, Queue: [][]byte{plain(10, 19)}}
	isHandedOn(t, s, shard(10, 19, 0, 0, 0), want)
	isDone(t, loadCore(t, wide(), s), shard(10, 19, 0, 0, 1), api.StNoBound)
	isDone(t, loadCore(t, wide(), s), shard(10, 18, 0, 0, 0), api.StNoBound)
}

func TestP10_8MostSegments(t *testing.T) {
	s := start(wide(), 1)
	s.Table, s.Spare = comb(mostSegments, 0, 1), 1000
	isDone(t, loadCore(t, wide(), s), shard(12, 14, 2, 0, 0), api.StNoBound)
	isDone(t, loadCore(t, wide(), s), shard(10, 14, 2, 0, 0), api.StNoBound)
	n := loadCore(t, wide(), s)
	must(t, n, api.Admin, shard(10, 14, 0, 0, 0))
	if x := n.State(); len(x.Table) != mostSegments || x.Spare != 998 {
		t.Errorf("%d segments, spare %d", len(x.Table), x.Spare)
	}
	s.Table = comb(mostSegments-1, 0, 1)
	isDone(t, loadCore(t, wide(), s), shard(12, 14, 2, 0, 0), api.StNoBound)
	n = loadCore(t, wide(), s)
	must(t, n, api.Admin, shard(10, 14, 2, 0, 0))
	if x := n.State(); len(x.Table) != mostSegments || x.Spare != 997 {
		t.Errorf("%d segments, spare %d", len(x.Table), x.Spare)
	}
}

func TestP10_8Queue(t *testing.T) {
	n := newCore(t, wide(), 0)
	for i := range uint64(4) {
		m := shard(i*10, i*10+4, 1, 0, 0)
		got := must(t, n, api.Admin, m)
		// Behind the window nothing is sent to the receiver yet.
		want := outs(api.Admin, done(5, api.StOK))
		if i < 2 {
			want = append(outs(1, data(i+1, plain(i*10, i*10+4))), want...)
		}
		if shown(got) != shown(want) {
			t.Errorf("Shard %d: %s; want %s", i, brief(got), brief(want))
		}
	}
	isDone(t, n, shard(90, 94, 1, 0, 0), api.StQueue)
	if got := must(t, n, api.Admin, shard(90, 94, 2, 0, 0)); len(got) != 2 {
		t.Errorf("another receiver: %s", brief(got))
	}
	// What is acknowledged makes room.
	isApply(t, n, 1, ack(1, 0), true, outs(1, data(3, plain(20, 24)))...)
	isApply(t, n, api.Admin, shard(100, 104, 1, 0, 0), true, outs(api.Admin, done(5, api.StOK))...)
	isDone(t, n, shard(110, 114, 1, 0, 0), api.StQueue)
}

func TestP10_8NumbersUsedUp(t *testing.T) {
	s := start(wide(), 0)
	s.End.Peers[1] = api.PeerState{Sent: top - 1, Acked: top - 1}
	n := loadCore(t, wide(), s)
	isApply(t, n, api.Admin, shard(0, 9, 1, 0, 0), true, append(outs(1, data(top, plain(0, 9))), outs(api.Admin, done(5, api.StOK))...)...)
	isDone(t, n, shard(20, 29, 1, 0, 0), api.StQueue)
}

// A Shard has no session: a second copy is looked at anew, with whatever number.
func TestP10_8SecondCopy(t *testing.T) {
	n := newCore(t, wide(), 0)
	m := shard(0, 9, 1, 0, 0)
	must(t, n, api.Admin, m)
	isDone(t, n, m, api.StNotOwner)
	for _, seq := range []uint64{1, 5, 4, top} {
		m.Seq = seq
		isDone(t, n, m, api.StNotOwner)
	}
	if got := n.State().Sessions; len(got) != 0 {
		t.Errorf("sessions: %v", got)
	}
}

func TestP10_8OneHost(t *testing.T) {
	c := small()
	c.Hosts = 1
	n := newCore(t, c, 0)
	isDone(t, n, shard(0, 9, 0, 0, 0), api.StSelf)
	isDone(t, n, shard(0, 9, 1, 0, 0), api.StNoHost)
}

// The greatest delegation there can be: 32 pairs of 64 bytes, 16 sessions.
func TestP10_9Greatest(t *testing.T) {
	c := wide()
	c.Clients = 16
	s := start(c, 0)
	for i := range uint64(mostMove) {
		s.Pairs = append(s.Pairs, api.Pair{Key: i * (top / mostMove), Value: make([]byte, 64)})
	}
	for i := range api.Addr(16) {
		s.Sessions = append(s.Sessions, sess(16+i, top, api.StNoCredit))
	}
	s.Free, s.Spare = 70000, 70000
	n := loadCore(t, c, s)
	want := delegation(0, top, mostGrant, mostGrant, s.Pairs, s.Sessions)
	isApply(t, n, api.Admin, shard(0, top, 3, mostGrant, mostGrant), true, append(outs(3, data(1, want)), outs(api.Admin, done(5, api.StOK))...)...)
	x := n.State()
	if x.Free != 70000-mostGrant || x.Spare != 70000-mostGrant-2 || len(x.Pairs) != 0 || len(x.Sessions) != 16 || len(x.Table) != 1 || x.Table[0].Host != 3 {
		t.Errorf("behind it: %s", brief(x))
	}
	if len(want) > 3072 {
		t.Errorf("the payload has %d bytes", len(want))
	}
}

// Sessions of clients that the configuration does not have go along too.
func TestP10_9AllSessions(t *testing.T) {
	s := start(small(), 0)
	s.Sessions = []api.Session{sess(16, 1, api.StOK), sess(31, 9, api.StDiffers)}
	n := loadCore(t, small(), s)
	want := delegation(0, 9, 0, 0, nil, s.Sessions)
	isApply(t, n, api.Admin, shard(0, 9, 1, 0, 0), true, append(outs(1, data(1, want)), outs(api.Admin, done(5, api.StOK))...)...)
}

// The chapter's examples 4 to 6.
func TestP10_8Examples(t *testing.T) {
	n := newCore(t, small(), 0)
	must(t, n, 16, set(1, 7, "a"))
	must(t, n, 16, set(2, 8, "b"))
	must(t, n, 17, set(1, 9, "c"))
	isDone(t, n, shard(5, 7, 1, 0, 0), api.StNoBound)
	sent := must(t, n, api.Admin, shard(0, 7, 1, 0, 0))
	if x := n.State(); x.Spare != 0 || x.Free != 0 || shown(x.Pairs) != shown([]api.Pair{pair(8, "b")}) {
		t.Errorf("behind the Shard: %s", brief(x))
	}
	other := newCore(t, small(), 1)
	isApply(t, other, 0, sent[0].M, true, outs(0, ack(1, 0))...)
	want := start(small(), 1)
	want.Table = []api.Segment{seg(0, 7, 1), seg(8, top, 0)}
	want.Pairs, want.Spare = []api.Pair{pair(7, "a")}, 4
	want.Sessions = []api.Session{sess(16, 2, api.StOK), sess(17, 1, api.StNoCredit)}
	want.End.Peers[0].Delivered = 1
	isState(t, other, want)
	isApply(t, other, 16, set(1, 7, "a"), false)
	isTold(t, other, 16, set(2, 6, "b"), api.StOK, false)
	m := scan(3, 6, 20, 5)
	told := reply(m, api.StOK)
	told.Hi, told.Pairs = 7, []api.Pair{pair(7, "a")}
	isApply(t, other, 16, m, false, outs(16, told)...)
}

// TestP10_8AgainstTheDocument: all ranges between some edges, to all hosts, with some credits.
func TestP10_8AgainstTheDocument(t *testing.T) {
	edges := []uint64{0, 99, 100, 101, 131, 132, 999, 1000, 2000, 2999, 3000, top - 1, top}
	for _, spare := range []int{0, 1, 2, 3, 4, 5} {
		s := owner()
		s.Spare, s.Free = spare, 1
		for _, lo := range edges {
			for _, hi := range edges {
				if lo > hi {
					continue
				}
				for to := range api.Addr(6) {
					for extra := range uint32(3) {
						m := shard(lo, hi, to, extra, extra)
						n, e := core.Load(wide(), s)
						if e != api.OK {
							t.Fatal(e)
						}
						holdApply(t, n, loadDoc(wide(), s), api.Admin, m)
					}
				}
			}
		}
	}
}
