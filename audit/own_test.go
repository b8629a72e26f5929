package audit_test

import (
	"math"
	"runtime"
	"slices"
	"testing"

	"shard/api"
	"shard/audit"
)

// roomy gives a list with spare room behind it.
func roomy[T any](list ...T) []T { return append(make([]T, 0, len(list)+3), list...) }

// rich gives a picture with something in every list, and spare room behind each.
func rich(t *testing.T) api.Picture {
	t.Helper()
	p := installed(t)
	p.Hosts[0].Pairs = []api.Pair{pair(3, "stray"), pair(9, "own"), pair(11, "")}
	p.Hosts[1].Sessions = []api.Session{{Client: 16, Seq: 2, Status: api.StOK}}
	p.Hosts[1].Free = -2
	m := delegate(5, 20, pair(7, "again"), pair(9, "too"), pair(10, ""))
	m.Sessions = []api.Session{{Client: 17, Seq: 1, Status: api.StMissing}}
	queued(&p, 1, 0, 4, packet(t, m), roomy([]byte("no delegation")...))
	p.Hosts[1].End.Peers[0].Mask = 1
	p.Hosts[1].End.Peers[0].Early = []api.Frame{{Seq: 3, Payload: []byte("early")}}
	p.Hosts = roomy(p.Hosts...)
	for h := range p.Hosts {
		s := &p.Hosts[h]
		s.Table, s.Pairs, s.Sessions, s.End.Peers = roomy(s.Table...), roomy(s.Pairs...), roomy(s.Sessions...), roomy(s.End.Peers...)
		for i := range s.Pairs {
			s.Pairs[i].Value = roomy(s.Pairs[i].Value...)
		}
		for i := range s.End.Peers {
			q := &s.End.Peers[i]
			q.Queue, q.Early = roomy(q.Queue...), roomy(q.Early...)
		}
	}
	return p
}

// shownWhole tells all of a picture as text, what stands in the spare room too.
func shownWhole(p api.Picture) string {
	text := shown(p) + shown(p.Hosts[:cap(p.Hosts)])
	for _, s := range p.Hosts {
		text += shown(s.Table[:cap(s.Table)]) + shown(s.Pairs[:cap(s.Pairs)]) + shown(s.Sessions[:cap(s.Sessions)]) + shown(s.End.Peers[:cap(s.End.Peers)])
		for _, x := range s.Pairs {
			text += shown(x.Value[:cap(x.Value)])
		}
		for _, q := range s.End.Peers {
			text += shown(q.Queue[:cap(q.Queue)]) + shown(q.Early[:cap(q.Early)])
			for _, payload := range q.Queue {
				text += shown(payload[:cap(payload)])
			}
		}
	}
	return text
}

// answers are what all calls answer.
type answers struct {
	live          []api.Flight
	holds         []api.Hold
	pairs, bounds int
	union         []api.Pair
	digest        uint64
	sums          []uint64
	found         []api.Finding
	same          bool
	errs          [6]api.Errno
}

func ask(p api.Picture, workers int) answers {
	var a answers
	a.live, a.errs[0] = audit.Live(p)
	a.holds, a.errs[1] = audit.Owners(p)
	a.pairs, a.bounds, a.errs[2] = audit.Credits(p)
	a.union, a.errs[3] = audit.Union(p)
	a.digest = audit.Digest(p.Hosts[0].Pairs)
	a.sums, a.errs[4] = audit.Digests(p, workers)
	a.found, a.errs[5] = audit.Check(p, workers)
	a.same = audit.Same(p, p)
	return a
}

func TestP16_10ArgumentsAreNotChanged(t *testing.T) {
	p := rich(t)
	want := shownWhole(p)
	ask(p, 2)
	isSame(t, "the picture", shownWhole(p), want)
	// Nor by a refusal.
	p.Hosts[1].Spare = 1 << 40
	want = shownWhole(p)
	ask(p, 2)
	ask(p, 65)
	isSame(t, "the picture", shownWhole(p), want)
}

// roomsOf tells the memory of all lists that were answered.
func roomsOf(a answers) []room {
	rooms := slices.Concat(roomOf(a.live), roomOf(a.holds), roomOf(a.union), roomOf(a.sums), roomOf(a.found))
	for _, f := range a.live {
		rooms = slices.Concat(rooms, roomOf(f.M.Pairs), roomOf(f.M.Sessions))
		for _, x := range f.M.Pairs {
			rooms = append(rooms, roomOf(x.Value)...)
		}
	}
	for _, h := range a.holds {
		rooms = slices.Concat(rooms, roomOf(h.Hosts), roomOf(h.Flights))
	}
	for _, x := range a.union {
		rooms = append(rooms, roomOf(x.Value)...)
	}
	return rooms
}

func roomsOfPicture(p api.Picture) []room {
	rooms := roomOf(p.Hosts)
	for _, s := range p.Hosts {
		rooms = slices.Concat(rooms, roomOf(s.Table), roomOf(s.Pairs), roomOf(s.Sessions), roomOf(s.End.Peers))
		for _, x := range s.Pairs {
			rooms = append(rooms, roomOf(x.Value)...)
		}
		for _, q := range s.End.Peers {
			rooms = slices.Concat(rooms, roomOf(q.Queue), roomOf(q.Early))
			for _, payload := range q.Queue {
				rooms = append(rooms, roomOf(payload)...)
			}
			for _, f := range q.Early {
				rooms = append(rooms, roomOf(f.Payload)...)
			}
		}
	}
	return rooms
}

func TestP16_10AnswersAreNewMemory(t *testing.T) {
	p := rich(t)
	rooms := roomsOfPicture(p)
	var held []answers
	for range 3 {
		a := ask(p, 2)
		if len(a.live) != 2 || len(a.holds) != 4 || len(a.union) != 6 || len(a.sums) != 2 || len(a.found) < 5 || a.errs != [6]api.Errno{} {
			t.Fatalf("%+v", a)
		}
		rooms = append(rooms, roomsOf(a)...)
		held = append(held, a)
	}
	if !apart(rooms) {
		t.Errorf("%d lists, of which some share memory", len(rooms))
	}
	runtime.KeepAlive(held)
	runtime.KeepAlive(p)
}

// What was handed in and what was answered may be written over.
func TestP16_10NothingIsKept(t *testing.T) {
	p := rich(t)
	a := ask(p, 2)
	want := shown(a)
	for h := range p.Hosts {
		s := &p.Hosts[h]
		for _, x := range s.Pairs {
			clear(x.Value)
		}
		for _, q := range s.End.Peers {
			for _, payload := range q.Queue {
				clear(payload)
			}
			clear(q.Queue)
			clear(q.Early)
		}
		clear(s.Table)
		clear(s.Pairs)
		clear(s.End.Peers)
	}
	clear(p.Hosts)
	isSame(t, "what was answered", shown(a), want)
	for _, f := range a.live {
		for _, x := range f.M.Pairs {
			clear(x.Value)
		}
		clear(f.M.Pairs)
	}
	for _, h := range a.holds {
		clear(h.Hosts)
		clear(h.Flights)
	}
	for _, x := range a.union {
		clear(x.Value)
	}
	clear(a.live)
	clear(a.holds)
	clear(a.union)
	clear(a.sums)
	clear(a.found)
	isSame(t, "what is answered again", shown(ask(rich(t), 2)), want)
}

// An empty list, nil or not, is the same.
func TestEmptyListsAreTheSame(t *testing.T) {
	p, q := handed(t), handed(t)
	for h := range q.Hosts {
		s := &q.Hosts[h]
		s.Pairs, s.Sessions = append([]api.Pair{}, s.Pairs...), []api.Session{}
		for b := range s.End.Peers {
			peer := &s.End.Peers[b]
			peer.Queue, peer.Early = append([][]byte{}, peer.Queue...), []api.Frame{}
		}
	}
	isSame(t, "all answers", shown(ask(q, 1)), shown(ask(p, 1)))
	isSame(t, "no hosts", []api.Errno{audit.CheckPicture(api.Picture{Config: configOf(1), Hosts: []api.HostState{}}), audit.CheckPicture(api.Picture{Config: configOf(1)})}, []api.Errno{api.ErrPicture, api.ErrPicture})
}

// Whatever is handed in, each call answers; beside an error all else is empty.
func TestP16_10NoCallPanics(t *testing.T) {
	numbers := []int{math.MinInt, math.MaxInt, -1 << 31, 1 << 31, -1, 0, 1, 2, 3, 16, 17, 64, 65, 1024}
	for seed := range 4000 {
		d := diceOf(seed)
		number := func() int { return numbers[d.Intn(len(numbers))] }
		p := d.picture(t)
		for range 1 + d.Intn(3) {
			s := &p.Hosts[d.Intn(len(p.Hosts))]
			switch d.Intn(7) {
			case 0:
				for _, field := range []*int{&p.Config.Hosts, &p.Config.Pairs, &p.Config.Bounds, &p.Config.Queue, &p.Config.Window, &p.Config.MTU}[d.Intn(6):][:1] {
					*field = number()
				}
			case 1:
				s.Self = api.Addr(d.Intn(256))
			case 2:
				s.Table = append(s.Table[:d.Intn(len(s.Table)+1)], seg(d.key(), d.key(), api.Addr(d.Intn(256))), seg(d.key(), d.key(), 0))
			case 3:
				s.Free, s.Spare = number(), number()
			case 4:
				s.End.Peers = s.End.Peers[:d.Intn(len(s.End.Peers)+1)]
			case 5:
				for b := range s.End.Peers {
					s.End.Peers[b] = api.PeerState{Sent: d.Uint64(), Acked: d.Uint64(), Queue: [][]byte{nil, {}, {1}}, Mask: d.Uint64(), Delivered: d.Uint64(), Early: []api.Frame{{Seq: d.Uint64()}}}
				}
			case 6:
				s.Pairs = append(s.Pairs, d.pairs(2)...)
			}
			if len(s.Table) == 0 {
				s.Table = d.table(1)
			}
		}
		a := ask(p, number())
		for i, length := range []int{len(a.live), len(a.holds), a.pairs | a.bounds, len(a.union), len(a.sums), len(a.found)} {
			if a.errs[i] != api.OK && length != 0 {
				t.Fatalf("call %d: %d beside %d", i, length, a.errs[i])
			}
		}
		audit.Same(p, api.Picture{})
	}
}
