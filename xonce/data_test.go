package xonce_test

import (
	"testing"

	"shard/api"
)

// extras are messages' fields of which a Data or an Ack has none, one by one.
var extras = []func(m *api.Message){
	func(m *api.Message) { m.Key = 1 },
	func(m *api.Message) { m.Hi = top },
	func(m *api.Message) { m.Value = []byte{0} },
	func(m *api.Message) { m.Old = []byte("x") },
	func(m *api.Message) { m.Has = true },
	func(m *api.Message) { m.Of = api.KGet },
	func(m *api.Message) { m.Status = api.StOK },
	func(m *api.Message) { m.Host = 255 },
	func(m *api.Message) { m.Grant = 1 << 31 },
	func(m *api.Message) { m.Bounds = 1 },
	func(m *api.Message) { m.Limit = 128 },
	func(m *api.Message) { m.Pairs = []api.Pair{{}} },
	func(m *api.Message) { m.Sessions = []api.Session{{}} },
}

// The document's fourth example.
func TestP8_3DataExamples(t *testing.T) {
	e := newEnd(t, 0, 3, 4, 2)
	isTake(t, e, 2, data(2, "y"), true, nil, out(2, ack(0, 1)))
	isTakeRefused(t, e, 2, data(3, "z"), api.ErrXonceFar)
	isTake(t, e, 2, data(1, "x"), true, []api.Up{up(2, 1, "x"), up(2, 2, "y")}, out(2, ack(2, 0)))
	isTake(t, e, 2, data(1, "q"), false, nil, out(2, ack(2, 0)))
	isTake(t, e, 2, data(4, "w"), true, nil, out(2, ack(2, 1)))
	isState(t, e, api.PeerState{}, api.PeerState{}, api.PeerState{Delivered: 2, Early: []api.Frame{{Seq: 4, Payload: []byte("w")}}})
}

// For every window, and for some numbers last handed up: each number around the window, to an end to which some have come early.
func TestP8_3DataOfAllNumbers(t *testing.T) {
	for window := 1; window <= mostQueue; window++ {
		for _, delivered := range []uint64{0, 1, 5, 1 << 32, top - 20, top - uint64(window) - 1, top - uint64(window), top - uint64(window) + 1, top - 2, top - 1, top} {
			for _, early := range []int{0, 2, 5, 7, 1<<16 - 1} {
				p := api.PeerState{Delivered: delivered}
				for i := 2; i <= window; i++ {
					if n, fine := plus(delivered, i); fine && early>>(i-1)&1 == 1 {
						p.Early = append(p.Early, api.Frame{Seq: n, Payload: []byte{byte(i)}})
					}
				}
				for _, n := range numbersAround(delivered, window) {
					holdTake(t, 16, window, p, data(n, "new"))
				}
			}
		}
	}
}

// numbersAround gives 0, the numbers from two below one to two above its window, and the greatest one, as far as there are such.
func numbersAround(delivered uint64, window int) []uint64 {
	list := []uint64{0, 1, top, top - 1, 1 << 63, delivered}
	for i := 1; i <= window+2; i++ {
		if n, fine := plus(delivered, i); fine {
			list = append(list, n)
		}
		if delivered >= uint64(i) {
			list = append(list, delivered-uint64(i))
		}
	}
	return list
}

// holdTake holds one Take of an end with this state of its peer against the document's.
func holdTake(t *testing.T, queue, window int, p api.PeerState, m api.Message) {
	t.Helper()
	e := loadPair(t, queue, window, p)
	want, x := loadDocEnd(0, 2, queue, window, api.EndState{Peers: []api.PeerState{{}, p}})
	if x != api.OK {
		t.Fatalf("%+v: %d", p, x)
	}
	got, err := e.Take(1, m)
	wanted, wantErr := want.take(1, m)
	if shown(got) != shown(wanted) || err != wantErr {
		t.Fatalf("%+v: Take(1, %v): %+v, %d; want %+v, %d", p, m, got, err, wanted, wantErr)
	}
	if shown(e.State()) != shown(want.state()) {
		t.Fatalf("%+v: Take(1, %v) leaves %+v; want %+v", p, m, e.State(), want.state())
	}
}

func TestP8_3DataThatCameFirstStays(t *testing.T) {
	e := newEnd(t, 1, 2, 4, 4)
	isTake(t, e, 0, data(3, "first"), true, nil, out(0, ack(0, 2)))
	isTake(t, e, 0, data(3, "later"), false, nil, out(0, ack(0, 2)))
	isTake(t, e, 0, data(4, "four"), true, nil, out(0, ack(0, 6)))
	isTake(t, e, 0, data(0, "none"), false, nil, out(0, ack(0, 6)))
	isTake(t, e, 0, data(1, "one"), true, []api.Up{up(0, 1, "one")}, out(0, ack(1, 3)))
	isTake(t, e, 0, data(3, "again"), false, nil, out(0, ack(1, 3)))
	isTake(t, e, 0, data(2, "two"), true, []api.Up{up(0, 2, "two"), up(0, 3, "first"), up(0, 4, "four")}, out(0, ack(4, 0)))
	isTake(t, e, 0, data(4, "late"), false, nil, out(0, ack(4, 0)))
}

// Nothing wraps round at the greatest number.
func TestP8_3DataOfTheLastNumbers(t *testing.T) {
	e := loadPair(t, 4, 3, api.PeerState{Delivered: top - 2})
	isTakeRefused(t, loadPair(t, 4, 3, api.PeerState{Delivered: top - 4}), 1, data(top, "x"), api.ErrXonceFar)
	isTake(t, e, 1, data(0, "o"), false, nil, out(1, ack(top-2, 0)))
	isTake(t, e, 1, data(top, "z"), true, nil, out(1, ack(top-2, 1)))
	isTake(t, e, 1, data(1, "o"), false, nil, out(1, ack(top-2, 1)))
	isTake(t, e, 1, data(top-1, "y"), true, []api.Up{up(1, top-1, "y"), up(1, top, "z")}, out(1, ack(top, 0)))
	for _, n := range []uint64{0, 1, 2, 3, 4, 1 << 63, top - 1, top} {
		isTake(t, e, 1, data(n, "o"), false, nil, out(1, ack(top, 0)))
	}
	isState(t, e, api.PeerState{}, api.PeerState{Delivered: top})
}

func TestP8_3DataLengths(t *testing.T) {
	e := newEnd(t, 0, 2, 4, 2)
	for _, n := range []uint64{0, 1, 2, 3, top} { // also of one that is old, or too far
		isTakeRefused(t, e, 1, data(n, ""), api.ErrXonceLong)
		isTakeRefused(t, e, 1, api.Message{Kind: api.KData, Seq: n}, api.ErrXonceLong)
		isTakeRefused(t, e, 1, data(n, string(long(longest+1))), api.ErrXonceLong)
	}
	isTake(t, e, 1, data(1, string(long(longest))), true, []api.Up{up(1, 1, string(long(longest)))}, out(1, ack(1, 0)))
	isTake(t, e, 1, data(2, "x"), true, []api.Up{up(1, 2, "x")}, out(1, ack(2, 0)))
	isTakeRefused(t, e, 1, data(1, ""), api.ErrXonceLong)
}

func TestP8_3TakeFromNoPeer(t *testing.T) {
	for _, hosts := range []int{1, 2, 3, mostHosts} {
		for self := range hosts {
			e := newEnd(t, api.Addr(self), hosts, 4, 2)
			for h := range 256 {
				from := api.Addr(h)
				if h != self && h < hosts {
					isTake(t, e, from, data(1, "x"), true, []api.Up{up(from, 1, "x")}, out(from, ack(1, 0)))
					isTake(t, e, from, ack(0, 0), false, nil)
					continue
				}
				isTakeRefused(t, e, from, data(1, "x"), api.ErrXoncePeer)
				isTakeRefused(t, e, from, ack(0, 0), api.ErrXoncePeer)
				isTakeRefused(t, e, from, api.Message{}, api.ErrXoncePeer)
			}
		}
	}
}

func TestP8_3TakeOfOtherKinds(t *testing.T) {
	e := newEnd(t, 0, 2, 4, 2)
	for k := range 256 {
		if kind := api.Kind(k); kind != api.KData && kind != api.KAck {
			isTakeRefused(t, e, 1, api.Message{Kind: kind}, api.ErrXonceKind)
			isTakeRefused(t, e, 1, api.Message{Kind: kind, Seq: 1, Payload: []byte("x")}, api.ErrXonceKind)
			isTakeRefused(t, e, 1, api.Message{Kind: kind, Seq: 1, Payload: long(longest + 1), Mask: 1}, api.ErrXonceKind)
		}
	}
}

// A field that the kind has not comes ahead of a length, a number and an acknowledgement that may not be.
func TestP8_3TakeOfFieldsThatTheKindHasNot(t *testing.T) {
	e := newEnd(t, 0, 2, 4, 2)
	for _, spare := range extras {
		for _, m := range []api.Message{data(1, "x"), data(0, "x"), data(9, "x"), data(1, ""), data(2, string(long(longest+1))), ack(0, 0), ack(9, 0), ack(0, 9)} {
			spare(&m)
			isTakeRefused(t, e, 1, m, api.ErrXonceKind)
		}
	}
	for _, m := range []api.Message{data(1, "x"), data(0, "x"), data(9, "x"), data(1, "")} {
		for _, mask := range []uint64{1, 1 << 63, top} {
			m.Mask = mask
			isTakeRefused(t, e, 1, m, api.ErrXonceKind)
		}
	}
	for _, payload := range [][]byte{{0}, []byte("x"), long(longest + 1)} {
		isTakeRefused(t, e, 1, api.Message{Kind: api.KAck, Payload: payload}, api.ErrXonceKind)
		isTakeRefused(t, e, 1, api.Message{Kind: api.KAck, Seq: 9, Payload: payload}, api.ErrXonceKind)
	}
}

// An empty list is the same as none.
func TestP8_3TakeOfEmptyLists(t *testing.T) {
	e := newEnd(t, 0, 2, 4, 2)
	m := api.Message{Value: []byte{}, Old: []byte{}, Pairs: []api.Pair{}, Sessions: []api.Session{}, Payload: []byte{}}
	m.Kind = api.KAck
	isTake(t, e, 1, m, false, nil)
	m.Kind, m.Seq = api.KData, 1
	isTakeRefused(t, e, 1, m, api.ErrXonceLong)
	m.Payload = []byte("x")
	isTake(t, e, 1, m, true, []api.Up{up(1, 1, "x")}, out(1, ack(1, 0)))
}

// What comes from one peer says nothing of what comes from another, nor of what goes there.
func TestP8_3PeersAndHalvesAreApart(t *testing.T) {
	e := newEnd(t, 1, 3, 4, 3)
	isSend(t, e, 0, "a", out(0, data(1, "a")))
	isTake(t, e, 0, data(1, "x"), true, []api.Up{up(0, 1, "x")}, out(0, ack(1, 0)))
	isTake(t, e, 2, data(3, "z"), true, nil, out(2, ack(0, 2)))
	isTakeRefused(t, e, 2, ack(1, 0), api.ErrXonceAck)
	isTake(t, e, 0, ack(1, 0), true, nil)
	isTakeRefused(t, e, 0, ack(2, 0), api.ErrXonceAck)
	isState(t, e, api.PeerState{Sent: 1, Acked: 1, Delivered: 1}, api.PeerState{}, api.PeerState{Early: []api.Frame{{Seq: 3, Payload: []byte("z")}}})
}
