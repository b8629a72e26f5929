package core_test

import (
	"testing"

	"shard/api"
	"shard/core"
	"shard/wire"
)

// holdApply applies a message to a core and to the document's.
func holdApply(t *testing.T, n *core.Core, d *docCore, from api.Addr, m api.Message) []api.Out {
	t.Helper()
	got, did, e := n.Apply(from, m)
	want, changed, we := d.apply(from, m)
	if shown(got) != shown(want) || did != changed || e != we {
		t.Fatalf("Apply(%d, %s): %s, %v, %d; want %s, %v, %d", from, brief(m), brief(got), did, e, brief(want), changed, we)
	}
	if s, ws := n.State(), d.state(); shown(s) != shown(ws) {
		t.Fatalf("behind Apply(%d, %s): %s; want %s", from, brief(m), brief(s), brief(ws))
	}
	return got
}

func TestP10_10Payload(t *testing.T) {
	n := newCore(t, small(), 1)
	good := plain(0, 9)
	cut := good[:len(good)-1]
	turned := append([]byte(nil), good...)
	turned[5] ^= 1
	for _, payload := range [][]byte{{0}, []byte("hello, world"), cut, append(good[:len(good):len(good)], 0), turned} {
		isRefused(t, n, 0, data(1, payload), api.ErrPayload)
		isRefused(t, n, 0, data(99, payload), api.ErrPayload)
	}
	for _, m := range oneOfEach() {
		payload, e := wire.Marshal(m)
		if e != api.OK || m.Kind == api.KDelegate {
			continue
		}
		isRefused(t, n, 0, data(1, payload), api.ErrPayload)
	}
	isApply(t, n, 0, data(1, good), true, outs(0, ack(1, 0))...)
}

// crowdedRows: states at the last place where there is room, and one past it, for a window of 2.
func crowdedRows() []struct {
	name string
	s    api.HostState
	want api.Errno
} {
	c := small()
	with := func(change func(*api.HostState)) api.HostState {
		s := start(c, 1)
		s.Table = []api.Segment{seg(0, 9, 0), seg(10, top, 1)}
		change(&s)
		return s
	}
	segments := func(n int) api.HostState {
		return with(func(s *api.HostState) { s.Table = comb(n, 0, 1) })
	}
	pairs := func(n int) api.HostState {
		return with(func(s *api.HostState) { s.Pairs = manyPairs(100, n) })
	}
	free := func(n int) api.HostState {
		return with(func(s *api.HostState) { s.Pairs, s.Free = manyPairs(100, 3), n })
	}
	spare := func(n int) api.HostState {
		return with(func(s *api.HostState) { s.Spare = n })
	}
	const mostFree, mostSpare = mostCredits - 2*(mostGrant+mostMove), mostCredits - 2*(mostGrant+2)
	return []struct {
		name string
		s    api.HostState
		want api.Errno
	}{
		{"segments", segments(mostSegments - 4), api.OK}, {"segments", segments(mostSegments - 3), api.ErrCrowded}, {"segments", segments(mostSegments), api.ErrCrowded},
		{"pairs", pairs(mostShelf - 64), api.OK}, {"pairs", pairs(mostShelf - 63), api.ErrCrowded}, {"pairs", pairs(mostShelf), api.ErrCrowded},
		{"free", free(mostFree - 3), api.OK}, {"free", free(mostFree - 2), api.ErrCrowded}, {"free", free(mostCredits - 3), api.ErrCrowded},
		{"spare", spare(mostSpare - 2), api.OK}, {"spare", spare(mostSpare - 1), api.ErrCrowded}, {"spare", spare(mostCredits - 2), api.ErrCrowded},
	}
}

func TestP10_10Crowded(t *testing.T) {
	for i, row := range crowdedRows() {
		n := loadCore(t, small(), row.s)
		if row.want != api.OK {
			for _, m := range []api.Message{data(1, plain(0, 9)), data(9, plain(0, 9))} {
				isRefused(t, n, 0, m, row.want)
			}
			isRefused(t, n, 0, data(1, []byte("no delegation")), api.ErrPayload)
			continue
		}
		if _, _, e := n.Apply(0, data(3, plain(0, 9))); e != api.ErrXonceFar {
			t.Errorf("row %d (%s): %d", i, row.name, e)
		}
		if _, changed, e := n.Apply(0, data(1, plain(0, 9))); e != api.OK || !changed {
			t.Errorf("row %d (%s): %v, %d", i, row.name, changed, e)
		}
	}
}

// At the last place where there is room, as many delegations as one Data can bring are taken in whole, each as great as can be.
func TestP10_10RoomForAWindow(t *testing.T) {
	greatest := func(lo uint64) []byte {
		return delegation(lo, lo+80, mostGrant, mostGrant, manyPairs(lo, 32), nil)
	}
	for i, row := range crowdedRows() {
		if row.want != api.OK {
			continue
		}
		if row.name == "pairs" { // ranges in which the host has no pair
			row.s.Table = []api.Segment{seg(0, 9999, 0), seg(10000, top, 1)}
			row.s.Pairs = manyPairs(20000, mostShelf-64)
		}
		n, d := loadCore(t, small(), row.s), loadDoc(small(), row.s)
		holdApply(t, n, d, 0, data(2, greatest(1100)))
		holdApply(t, n, d, 0, data(1, greatest(1004)))
		s := n.State()
		if s.End.Peers[0].Delivered != 2 || !docWellFormed(s) {
			t.Errorf("row %d (%s): %s", i, row.name, brief(s))
		}
		if row.name == "pairs" && len(s.Pairs) != mostShelf || row.name == "free" && s.Free+len(s.Pairs) != mostCredits || row.name == "spare" && s.Spare+len(s.Table) != mostCredits {
			t.Errorf("row %d (%s): %d pairs, %d free, %d spare", i, row.name, len(s.Pairs), s.Free, s.Spare)
		}
	}
}

// The room that is asked for grows with the window.
func TestP10_10CrowdedByWindow(t *testing.T) {
	c := small()
	c.Queue = 16
	for _, window := range []int{1, 3, 16} {
		c.Window = window
		for _, more := range []int{0, 1} {
			s := start(c, 1)
			s.Table = comb(mostSegments-2*window+more, 0, 1)
			n, d := loadCore(t, c, s), loadDoc(c, s)
			holdApply(t, n, d, 0, data(1, plain(4, 5)))
			s = start(c, 1)
			s.Free = mostCredits - window*(mostGrant+mostMove) + more
			n, d = loadCore(t, c, s), loadDoc(c, s)
			holdApply(t, n, d, 0, data(1, plain(4, 5)))
			s = start(c, 1)
			s.Spare = mostCredits - window*(mostGrant+2) - 1 + more
			n, d = loadCore(t, c, s), loadDoc(c, s)
			holdApply(t, n, d, 0, data(1, plain(4, 5)))
		}
	}
}

func TestP10_10InOrder(t *testing.T) {
	c := small()
	c.Window = 3
	n := newCore(t, c, 1)
	first := delegation(0, 99, 1, 0, []api.Pair{pair(5, "first")}, []api.Session{sess(16, 3, api.StOK)})
	second := delegation(50, 149, 2, 1, []api.Pair{pair(60, "second")}, []api.Session{sess(16, 2, api.StMissing), sess(17, 1, api.StOK)})
	third := delegation(200, 200, 0, 0, nil, nil)
	isRefused(t, n, 0, data(4, third), api.ErrXonceFar)
	isApply(t, n, 0, data(3, third), true, outs(0, ack(0, 2))...)
	isApply(t, n, 0, data(3, third), false, outs(0, ack(0, 2))...)
	isApply(t, n, 0, data(2, second), true, outs(0, ack(0, 3))...)
	early := start(c, 1)
	early.End.Peers[0].Early = []api.Frame{{Seq: 2, Payload: second}, {Seq: 3, Payload: third}}
	isState(t, n, early)
	isApply(t, n, 0, data(1, first), true, outs(0, ack(3, 0))...)
	want := start(c, 1)
	want.Table = []api.Segment{seg(0, 149, 1), seg(150, 199, 0), seg(200, 200, 1), seg(201, top, 0)}
	want.Pairs = []api.Pair{pair(5, "first"), pair(60, "second")}
	want.Sessions = []api.Session{sess(16, 3, api.StOK), sess(17, 1, api.StOK)}
	want.Free = c.Pairs + 1 + 2
	want.Spare = c.Bounds + (2 - 1) + (1 + 2 - 0) + (2 - 2)
	want.End.Peers[0].Delivered = 3
	isState(t, n, want)
	for _, m := range []api.Message{data(1, first), data(2, second), data(3, third), data(2, third)} {
		isApply(t, n, 0, m, false, outs(0, ack(3, 0))...)
	}
}

func TestP10_11Installing(t *testing.T) {
	base := start(wide(), 2)
	base.Table = []api.Segment{seg(0, 9, 0), seg(10, 29, 2), seg(30, 39, 1), seg(40, 49, 2), seg(50, top, 0)}
	base.Pairs = []api.Pair{pair(10, "a"), pair(20, "b"), pair(29, "c"), pair(40, "d"), pair(49, "e")}
	base.Sessions = []api.Session{sess(16, 5, api.StOK), sess(18, 7, api.StMissing)}
	base.Free, base.Spare = 3, 4
	for _, row := range []struct {
		lo, hi        uint64
		grant, bounds uint32
		pairs         []api.Pair
		sessions      []api.Session
		table         []api.Segment
		free, spare   int
		have          []api.Pair
		known         []api.Session
	}{
		// The gap between two segments: the cost is below 0, so more than the two come free.
		{30, 39, 0, 0, []api.Pair{pair(35, "new")}, nil,
			[]api.Segment{seg(0, 9, 0), seg(10, 49, 2), seg(50, top, 0)}, 3, 4 + 2 + 2,
			[]api.Pair{pair(10, "a"), pair(20, "b"), pair(29, "c"), pair(35, "new"), pair(40, "d"), pair(49, "e")}, base.Sessions},
		// Pairs of its own in the range leave, their credits with them.
		{20, 40, 9, 8, []api.Pair{pair(20, "new"), pair(21, "")}, nil,
			[]api.Segment{seg(0, 9, 0), seg(10, 49, 2), seg(50, top, 0)}, 3 + 3 + 9, 4 + 8 + 2 + 2,
			[]api.Pair{pair(10, "a"), pair(20, "new"), pair(21, ""), pair(49, "e")}, base.Sessions},
		// What is its own already costs nothing.
		{15, 18, 0, 0, nil, nil, base.Table, 3, 4 + 2, base.Pairs, base.Sessions},
		// In the middle of another's keys: the cost is 2.
		{60, 60, 1, 1, []api.Pair{pair(60, "new")}, nil,
			append(base.Table[:4:4], seg(50, 59, 0), seg(60, 60, 2), seg(61, top, 0)), 4, 4 + 1 + 2 - 2,
			append(base.Pairs[:5:5], pair(60, "new")), base.Sessions},
		// Everything.
		{0, top, 65535, 65535, []api.Pair{pair(0, "z"), pair(top, "t")}, nil,
			[]api.Segment{seg(0, top, 2)}, 3 + 5 + 65535, 4 + 65535 + 2 + 4, []api.Pair{pair(0, "z"), pair(top, "t")}, base.Sessions},
		// Sessions: a new client, a higher, an equal and a lower number, a client that the configuration does not have.
		{10, 10, 0, 0, []api.Pair{pair(10, "a")}, []api.Session{sess(16, 6, api.StDiffers), sess(17, 1, api.StOK), sess(18, 7, api.StOK), sess(31, 2, api.StNoCredit)},
			base.Table, 3 + 1, 4 + 2, base.Pairs, []api.Session{sess(16, 6, api.StDiffers), sess(17, 1, api.StOK), sess(18, 7, api.StMissing), sess(31, 2, api.StNoCredit)}},
		{10, 10, 0, 0, []api.Pair{pair(10, "a")}, []api.Session{sess(16, 4, api.StDiffers), sess(18, top, api.StOK)},
			base.Table, 3 + 1, 4 + 2, base.Pairs, []api.Session{sess(16, 5, api.StOK), sess(18, top, api.StOK)}},
	} {
		n := loadCore(t, wide(), base)
		isApply(t, n, 3, data(1, delegation(row.lo, row.hi, row.grant, row.bounds, row.pairs, row.sessions)), true, outs(3, ack(1, 0))...)
		want := base
		want.Table, want.Pairs, want.Sessions, want.Free, want.Spare = row.table, row.have, row.known, row.free, row.spare
		want.End.Peers = make([]api.PeerState, 4)
		want.End.Peers[3].Delivered = 1
		isState(t, n, want)
	}
}

// A client that the configuration does not have may have a session, but may not ask.
func TestP10_11StrangeClient(t *testing.T) {
	n := newCore(t, small(), 1)
	must(t, n, 0, data(1, delegation(0, top, 0, 0, nil, []api.Session{sess(18, 2, api.StOK)})))
	isRefused(t, n, 18, set(2, 5, "x"), api.ErrFrom)
	isTold(t, n, 17, set(2, 5, "x"), api.StOK, true)
}

func TestP10_12Ack(t *testing.T) {
	n := newCore(t, wide(), 0)
	for i := range uint64(4) {
		must(t, n, api.Admin, shard(i*10, i*10+4, 1, 0, 0))
	}
	isRefused(t, n, 1, ack(5, 0), api.ErrXonceAck)
	isRefused(t, n, 1, ack(3, 1), api.ErrXonceAck)
	isRefused(t, n, 2, ack(1, 0), api.ErrXonceAck)
	isApply(t, n, 1, ack(0, 0), false)
	isApply(t, n, 1, ack(0, 1), true)
	isApply(t, n, 1, ack(0, 1), false)
	isApply(t, n, 1, ack(2, 0), true, outs(1, data(3, plain(20, 24)), data(4, plain(30, 34)))...)
	isApply(t, n, 1, ack(1, 0), false)
	isApply(t, n, 1, ack(4, 0), true)
	isApply(t, n, 2, ack(0, 0), false)
}

func TestP10_14Tick(t *testing.T) {
	n := newCore(t, wide(), 0)
	if got := n.Tick(); len(got) != 0 {
		t.Errorf("Tick of a new core: %s", brief(got))
	}
	for i := range uint64(3) {
		must(t, n, api.Admin, shard(i*10, i*10+4, 3, 0, 0))
	}
	must(t, n, api.Admin, shard(90, 94, 1, 0, 0))
	before := shown(n.State())
	want := append(outs(1, data(1, plain(90, 94))), outs(3, data(1, plain(0, 4)), data(2, plain(10, 14)))...)
	for range 2 {
		if got := n.Tick(); shown(got) != shown(want) {
			t.Errorf("Tick: %s; want %s", brief(got), brief(want))
		}
	}
	must(t, n, 3, ack(0, 1))
	if got := n.Tick(); shown(got) != shown(want[:2]) {
		t.Errorf("Tick: %s; want %s", brief(got), brief(want[:2]))
	}
	must(t, n, 3, ack(1, 0))
	must(t, n, 1, ack(1, 0))
	if got, want := n.Tick(), outs(3, data(2, plain(10, 14)), data(3, plain(20, 24))); shown(got) != shown(want) {
		t.Errorf("Tick: %s; want %s", brief(got), brief(want))
	}
	if before == shown(n.State()) {
		t.Errorf("the acknowledgements changed nothing")
	}
	behind := shown(n.State())
	n.Tick()
	if shown(n.State()) != behind {
		t.Errorf("Tick changed the state")
	}
	var none *core.Core
	if got := none.Tick(); len(got) != 0 {
		t.Errorf("Tick of a nil core: %s", brief(got))
	}
}
