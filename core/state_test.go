package core_test

import (
	"math"
	"testing"

	"shard/api"
	"shard/core"
)

// full is a state with something in every field: host 1 of four.
func full() api.HostState {
	s := start(wide(), 1)
	s.Table = []api.Segment{seg(0, 9, 0), seg(10, 19, 1), seg(20, 29, 3), seg(30, top, 1)}
	s.Pairs = []api.Pair{pair(10, ""), pair(15, "fifteen"), pair(40, "forty"), pair(top, "last")}
	s.Sessions = []api.Session{sess(16, 1, api.StOK), sess(17, 300, api.StMissing), sess(18, top, api.StDiffers), sess(31, 4, api.StNoCredit)}
	s.Free, s.Spare = 300, 7
	s.End.Peers[0] = api.PeerState{Sent: 5, Acked: 3, Queue: [][]byte{plain(0, 3), plain(4, 9)}, Mask: 1, Delivered: 7}
	s.End.Peers[3] = api.PeerState{Sent: 9, Acked: 9, Delivered: 2, Early: []api.Frame{{Seq: 4, Payload: delegation(100, 200, 1, 2, []api.Pair{pair(150, "x")}, nil)}}}
	return s
}

// stateRow is a change of the full state, and whether it is well-formed then.
type stateRow struct {
	name   string
	change func(*api.HostState)
	fine   bool
}

func stateRows() []stateRow {
	peer := func(h int, change func(*api.PeerState)) func(*api.HostState) {
		return func(s *api.HostState) { change(&s.End.Peers[h]) }
	}
	session := func(x api.Session) func(*api.HostState) {
		return func(s *api.HostState) { s.Sessions = []api.Session{x} }
	}
	table := func(list ...api.Segment) func(*api.HostState) {
		return func(s *api.HostState) { s.Table, s.Pairs = list, nil }
	}
	request := []byte{83, 1, 1, 1, 0, 0, 0, 0, 0, 0, 0, 5} // a Get's bytes, ahead of the sum
	return []stateRow{
		{"as it is", func(s *api.HostState) {}, true},
		{"self 16", func(s *api.HostState) { s.Self = 16 }, false},
		{"self 255", func(s *api.HostState) { s.Self = 255 }, false},
		{"another self", func(s *api.HostState) { s.Self = 2 }, false},
		{"another self without pairs", func(s *api.HostState) { s.Self, s.Pairs = 2, nil; s.End.Peers[2] = api.PeerState{} }, true},
		{"self above the peers", func(s *api.HostState) { s.Self, s.Pairs = 4, nil }, false},

		{"no table", func(s *api.HostState) { s.Table = nil }, false},
		{"no table, no pairs", table(), false},
		{"one segment", table(seg(0, top, 1)), true},
		{"another's", table(seg(0, top, 0)), true},
		{"host 15", table(seg(0, top, 15)), true},
		{"host 16", table(seg(0, top, 16)), false},
		{"neighbours of one host", table(seg(0, 9, 1), seg(10, top, 1)), false},
		{"a gap", table(seg(0, 9, 1), seg(11, top, 2)), false},
		{"twice", table(seg(0, 10, 1), seg(10, top, 2)), false},
		{"not from 0", table(seg(1, top, 1)), false},
		{"not to the top", table(seg(0, top-1, 1)), false},
		{"round", table(seg(0, top, 1), seg(0, top, 2)), false},
		{"turned", table(seg(0, 9, 1), seg(10, 5, 2), seg(6, top, 1)), false},
		{"most segments", func(s *api.HostState) { s.Table, s.Pairs = comb(mostSegments, 1, 2), nil }, true},
		{"too many segments", func(s *api.HostState) { s.Table, s.Pairs = comb(mostSegments+1, 1, 2), nil }, false},

		{"no pairs", func(s *api.HostState) { s.Pairs = nil }, true},
		{"no list of pairs", func(s *api.HostState) { s.Pairs = []api.Pair{} }, true},
		{"a pair twice", func(s *api.HostState) { s.Pairs[1].Key = 10 }, false},
		{"pairs that fall", func(s *api.HostState) { s.Pairs[0], s.Pairs[1] = s.Pairs[1], s.Pairs[0] }, false},
		{"a value of 64", func(s *api.HostState) { s.Pairs[2].Value = make([]byte, 64) }, true},
		{"a value of 65", func(s *api.HostState) { s.Pairs[2].Value = make([]byte, 65) }, false},
		{"a pair of another's", func(s *api.HostState) { s.Pairs[0].Key = 9 }, false},
		{"a pair of another's in the middle", func(s *api.HostState) { s.Pairs[2].Key = 29 }, false},
		{"a pair at the edge", func(s *api.HostState) { s.Pairs[2].Key = 30 }, true},
		{"most pairs", func(s *api.HostState) { s.Pairs = manyPairs(30, mostShelf) }, true},
		{"too many pairs", func(s *api.HostState) { s.Pairs = manyPairs(30, mostShelf+1) }, false},

		{"no sessions", func(s *api.HostState) { s.Sessions = nil }, true},
		{"a client of 15", session(sess(15, 1, api.StOK)), false},
		{"a client of 16", session(sess(16, 1, api.StOK)), true},
		{"a client of 31", session(sess(31, 1, api.StOK)), true},
		{"a client of 32", session(sess(32, 1, api.StOK)), false},
		{"the number 0", session(sess(16, 0, api.StOK)), false},
		{"the status 0", session(sess(16, 1, 0)), false},
		{"the status 4", session(sess(16, 1, api.StNoCredit)), true},
		{"the status 5", session(sess(16, 1, api.StNoBound)), false},
		{"the status 255", session(sess(16, 1, 255)), false},
		{"a client twice", func(s *api.HostState) { s.Sessions[1].Client = 16 }, false},
		{"clients that fall", func(s *api.HostState) { s.Sessions[1].Client = 30 }, false},
		{"all clients", func(s *api.HostState) {
			s.Sessions = nil
			for i := range api.Addr(16) {
				s.Sessions = append(s.Sessions, sess(16+i, 1, api.StOK))
			}
		}, true},

		{"free below 0", func(s *api.HostState) { s.Free = -1 }, false},
		{"spare below 0", func(s *api.HostState) { s.Spare = -1 }, false},
		{"the least free", func(s *api.HostState) { s.Free = math.MinInt }, false},
		{"the least spare", func(s *api.HostState) { s.Spare = math.MinInt }, false},
		{"nothing free", func(s *api.HostState) { s.Free, s.Spare = 0, 0 }, true},
		{"most free", func(s *api.HostState) { s.Free = mostCredits - 4 }, true},
		{"too many free", func(s *api.HostState) { s.Free = mostCredits - 3 }, false},
		{"the greatest free", func(s *api.HostState) { s.Free = math.MaxInt }, false},
		{"most spare", func(s *api.HostState) { s.Spare = mostCredits - 4 }, true},
		{"too many spare", func(s *api.HostState) { s.Spare = mostCredits - 3 }, false},
		{"the greatest spare", func(s *api.HostState) { s.Spare = math.MaxInt }, false},

		{"no peers", func(s *api.HostState) { s.End.Peers = nil }, false},
		{"fewer peers than self", func(s *api.HostState) { s.End.Peers = s.End.Peers[:1] }, false},
		{"just self", func(s *api.HostState) { s.End.Peers = s.End.Peers[:2] }, true},
		{"sixteen peers", func(s *api.HostState) { s.End.Peers = append(s.End.Peers, make([]api.PeerState, 12)...) }, true},
		{"seventeen peers", func(s *api.HostState) { s.End.Peers = append(s.End.Peers, make([]api.PeerState, 13)...) }, false},
		{"a peer that is self", peer(1, func(p *api.PeerState) { p.Delivered = 1 }), false},
		{"acked above sent", peer(2, func(p *api.PeerState) { p.Acked = 1 }), false},
		{"a queue too short", peer(0, func(p *api.PeerState) { p.Sent = 6 }), false},
		{"a mask too far", peer(0, func(p *api.PeerState) { p.Mask = 2 }), false},
		{"a queue of 16", peer(2, func(p *api.PeerState) { p.Sent, p.Queue = 16, payloads(16) }), true},
		{"a queue of 17", peer(2, func(p *api.PeerState) { p.Sent, p.Queue = 17, payloads(17) }), false},
		{"early that is next", peer(3, func(p *api.PeerState) { p.Early[0].Seq = 3 }), false},
		{"early within 16", peer(3, func(p *api.PeerState) { p.Early[0].Seq = 18 }), true},
		{"early too far", peer(3, func(p *api.PeerState) { p.Early[0].Seq = 19 }), false},
		{"an empty payload", peer(0, func(p *api.PeerState) { p.Queue[1] = nil }), false},
		{"a payload that is none", peer(0, func(p *api.PeerState) { p.Queue[1] = []byte("x") }), false},
		{"a payload of another kind", peer(0, func(p *api.PeerState) { p.Queue[0] = sealed(request) }), false},
		{"a damaged payload", peer(0, func(p *api.PeerState) { p.Queue[0][4] ^= 1 }), false},
		{"an empty frame", peer(3, func(p *api.PeerState) { p.Early[0].Payload = nil }), false},
		{"a frame that is none", peer(3, func(p *api.PeerState) { p.Early[0].Payload = []byte("x") }), false},
		{"a frame of another kind", peer(3, func(p *api.PeerState) { p.Early[0].Payload = sealed(request) }), false},
		{"a damaged frame", peer(3, func(p *api.PeerState) { p.Early[0].Payload[4] ^= 1 }), false},
	}
}

func payloads(n int) [][]byte {
	var list [][]byte
	for i := range n {
		list = append(list, plain(uint64(i), 99))
	}
	return list
}

func TestP10_15State(t *testing.T) {
	s := full()
	isState(t, loadCore(t, wide(), s), s)
	var none *core.Core
	if got := none.State(); shown(got) != shown(api.HostState{}) {
		t.Errorf("State of a nil core: %s", brief(got))
	}
}

func TestP10_16WellFormed(t *testing.T) {
	c := wide()
	c.Hosts, c.Queue, c.Window = 16, 16, 16
	for _, row := range stateRows() {
		s := full()
		row.change(&s)
		if docWellFormed(s) != row.fine {
			t.Errorf("%s: the document's own rule says otherwise", row.name)
		}
		_, e := core.Save(s)
		if (e == api.OK) != row.fine || !row.fine && e != api.ErrState {
			t.Errorf("%s: Save: %d", row.name, e)
		}
		// With sixteen hosts and the greatest queue and window only the number of peers is asked beside.
		want := docCheckState(c, s)
		if got := core.CheckState(c, s); got != want {
			t.Errorf("%s: CheckState: %d; want %d", row.name, got, want)
		}
	}
}

func TestP10_17Config(t *testing.T) {
	base := small()
	for i := range fieldsOf(&base) {
		for _, far := range []bool{false, true} {
			c := wide()
			f := fieldsOf(&c)[i]
			*f.field = f.least - 1
			if far {
				*f.field = f.most + 1
			}
			for _, s := range []api.HostState{full(), {}} {
				isErr(t, core.CheckState(c, s), api.ErrConfig)
				if n, e := core.Load(c, s); n != nil || e != api.ErrConfig {
					t.Errorf("Load: %v, %d", n, e)
				}
			}
		}
	}
}

func TestP10_17UnderAConfig(t *testing.T) {
	for _, row := range stateRows() {
		for _, hosts := range []int{1, 2, 3, 4, 5, 16} {
			for _, queue := range []int{1, 2, 16} {
				for _, window := range []int{1, 2, queue} {
					c := wide()
					c.Hosts, c.Queue, c.Window = hosts, queue, min(window, queue)
					s := full()
					row.change(&s)
					want := docCheckState(c, s)
					if got := core.CheckState(c, s); got != want {
						t.Errorf("%s, %d hosts, queue %d, window %d: %d; want %d", row.name, hosts, queue, window, got, want)
					}
					n, e := core.Load(c, s)
					if e != want || (n != nil) != (want == api.OK) {
						t.Errorf("%s, %d hosts, queue %d, window %d: Load: %d; want %d", row.name, hosts, queue, window, e, want)
					}
					if n != nil {
						isState(t, n, s)
					}
				}
			}
		}
	}
}

func TestP10_17Rows(t *testing.T) {
	s := full()
	for _, row := range []struct {
		name   string
		change func(*api.Config, *api.HostState)
		want   api.Errno
	}{
		{"as it is", func(c *api.Config, s *api.HostState) {}, api.OK},
		{"fewer hosts than peers", func(c *api.Config, s *api.HostState) { c.Hosts = 3 }, api.ErrState},
		{"more hosts than peers", func(c *api.Config, s *api.HostState) { c.Hosts = 5 }, api.ErrState},
		{"a segment of a host that is not there", func(c *api.Config, s *api.HostState) { s.Table[0].Host = 4 }, api.ErrState},
		{"a segment of the last host", func(c *api.Config, s *api.HostState) { s.Table[0].Host = 3 }, api.OK},
		{"a queue above the configuration's", func(c *api.Config, s *api.HostState) { c.Queue, c.Window = 1, 1 }, api.ErrState},
		{"a window of 1, something early", func(c *api.Config, s *api.HostState) { c.Window = 1 }, api.ErrState},
		{"a window of 1, nothing early", func(c *api.Config, s *api.HostState) { c.Window, s.End.Peers[3].Early = 1, nil }, api.OK},
		{"a session of a client that is not there", func(c *api.Config, s *api.HostState) { c.Clients = 0 }, api.OK},
		{"more credits than the configuration gave", func(c *api.Config, s *api.HostState) { c.Pairs, c.Bounds = 0, 0 }, api.OK},
	} {
		c, x := wide(), copyState(s)
		row.change(&c, &x)
		if got := core.CheckState(c, x); got != row.want {
			t.Errorf("%s: %d; want %d", row.name, got, row.want)
		}
	}
}

// TestP10_18DoesTheSame: a core that is loaded with another's State answers all that comes as that one does.
func TestP10_18DoesTheSame(t *testing.T) {
	s := full()
	one := loadCore(t, wide(), s)
	for i, m := range []struct {
		from api.Addr
		m    api.Message
	}{
		{16, set(2, 50, "v")}, {17, del(300, 10)}, {17, del(299, 10)}, {18, get(top, 15)}, {17, scan(301, 10, top, 2)},
		{api.Admin, shard(10, 14, 2, 5, 1)}, {api.Admin, shard(30, 50, 0, 0, 0)}, {0, ack(4, 0)}, {0, ack(5, 0)}, {3, data(3, plain(20, 22))}, {3, data(5, plain(23, 29))},
		{2, data(1, plain(10, 12))}, {16, get(9, 21)}, {16, fill(10, 21, "x")}, {api.Admin, shard(21, 21, 3, 0, 0)},
	} {
		other := loadCore(t, wide(), one.State())
		if a, b := one.Tick(), other.Tick(); shown(a) != shown(b) {
			t.Errorf("row %d: Tick: %s; want %s", i, brief(b), brief(a))
		}
		a, ac, ae := one.Apply(m.from, m.m)
		b, bc, be := other.Apply(m.from, m.m)
		if shown(a) != shown(b) || ac != bc || ae != be {
			t.Errorf("row %d: %s, %v, %d; want %s, %v, %d", i, brief(b), bc, be, brief(a), ac, ae)
		}
		isState(t, other, one.State())
	}
}
