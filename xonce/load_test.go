package xonce_test

import (
	"math/rand"
	"testing"

	"shard/api"
	"shard/xonce"
)

// aState is a state of host 1 among 3, with queue 4 and window 3, in which each list has something.
func aState() api.EndState {
	return api.EndState{Peers: []api.PeerState{
		{Sent: 5, Acked: 2, Queue: [][]byte{{1}, {2}, {3}}, Mask: 3, Delivered: 9, Early: []api.Frame{{Seq: 11, Payload: []byte("e")}, {Seq: 12, Payload: []byte("f")}}},
		{},
		{Sent: 1, Queue: [][]byte{long(longest)}, Delivered: top},
	}}
}

func TestP8_7LoadGivesTheState(t *testing.T) {
	e := loadEnd(t, 1, 3, 4, 3, aState())
	isState(t, e, aState().Peers...)
	isRoom(t, e, 0, 1)
	isRoom(t, e, 2, 3)
	isCalm(t, e, false)
	isTick(t, e, out(0, data(3, "\x01")), out(2, data(1, string(long(longest)))))
	isTake(t, e, 0, data(10, "d"), true, []api.Up{up(0, 10, "d"), up(0, 11, "e"), up(0, 12, "f")}, out(0, ack(12, 0)))
	isTake(t, e, 0, ack(4, 0), true, nil)
	isSend(t, e, 0, "x", out(0, data(6, "x")))
}

// Each of these makes of aState one that may not be.
var mars = map[string]func(s *api.EndState){
	"no entries":             func(s *api.EndState) { s.Peers = nil },
	"an entry too few":       func(s *api.EndState) { s.Peers = s.Peers[:2] },
	"an entry too many":      func(s *api.EndState) { s.Peers = append(s.Peers, api.PeerState{}) },
	"entries by the million": func(s *api.EndState) { s.Peers = make([]api.PeerState, 1<<20) },
	"own Sent and Acked":     func(s *api.EndState) { s.Peers[1].Sent, s.Peers[1].Acked = 1, 1 },
	"own Queue":              func(s *api.EndState) { s.Peers[1].Sent, s.Peers[1].Queue = 1, [][]byte{{1}} },
	"own Queue alone":        func(s *api.EndState) { s.Peers[1].Queue = [][]byte{nil} },
	"own Sent":               func(s *api.EndState) { s.Peers[1].Sent = 1 },
	"own Acked":              func(s *api.EndState) { s.Peers[1].Acked = 1 },
	"own Mask":               func(s *api.EndState) { s.Peers[1].Mask = 1 },
	"own Delivered":          func(s *api.EndState) { s.Peers[1].Delivered = 1 },
	"own Early":              func(s *api.EndState) { s.Peers[1].Early = []api.Frame{{Seq: 2, Payload: []byte("x")}} },
	"own entry elsewhere":    func(s *api.EndState) { s.Peers[0], s.Peers[1] = s.Peers[1], s.Peers[0] },
	"Sent too high":          func(s *api.EndState) { s.Peers[0].Sent = 6 },
	"Sent too low":           func(s *api.EndState) { s.Peers[0].Sent = 4 },
	"Sent below Acked":       func(s *api.EndState) { s.Peers[0].Sent = 1 },
	"Acked above Sent":       func(s *api.EndState) { s.Peers[0].Acked = 6 },
	"Acked above, no Queue":  func(s *api.EndState) { s.Peers[0].Acked, s.Peers[0].Queue, s.Peers[0].Mask = 6, nil, 0 },
	"Acked and Sent turned":  func(s *api.EndState) { s.Peers[0].Acked, s.Peers[0].Sent = 5, 2 },
	"a difference that wraps round": func(s *api.EndState) {
		s.Peers[0].Acked, s.Peers[0].Sent = top-1, 1
	},
	"Queue too short": func(s *api.EndState) { s.Peers[0].Queue = s.Peers[0].Queue[:2] },
	"Queue too long":  func(s *api.EndState) { s.Peers[0].Queue = append(s.Peers[0].Queue, []byte{4}) },
	"Queue above its limit": func(s *api.EndState) {
		s.Peers[0].Sent, s.Peers[0].Queue = 7, [][]byte{{1}, {2}, {3}, {4}, {5}}
	},
	"Mask above Sent":      func(s *api.EndState) { s.Peers[0].Mask = 4 },
	"Mask far above Sent":  func(s *api.EndState) { s.Peers[0].Mask = 1 << 63 },
	"Mask of nothing":      func(s *api.EndState) { s.Peers[0] = api.PeerState{Mask: 1} },
	"Mask of the first":    func(s *api.EndState) { s.Peers[2].Mask = 1 },
	"Mask above all":       func(s *api.EndState) { s.Peers[0] = api.PeerState{Sent: top, Acked: top, Mask: 1} },
	"no payload":           func(s *api.EndState) { s.Peers[0].Queue[1] = nil },
	"an empty last one":    func(s *api.EndState) { s.Peers[0].Queue[2] = []byte{} },
	"a payload too long":   func(s *api.EndState) { s.Peers[2].Queue[0] = long(longest + 1) },
	"Early at its turn":    func(s *api.EndState) { s.Peers[0].Early[0].Seq = 10 },
	"Early at Delivered":   func(s *api.EndState) { s.Peers[0].Early[0].Seq = 9 },
	"Early below":          func(s *api.EndState) { s.Peers[0].Early[0].Seq = 8 },
	"Early at 0":           func(s *api.EndState) { s.Peers[0].Early[0].Seq = 0 },
	"Early beyond":         func(s *api.EndState) { s.Peers[0].Early[1].Seq = 13 },
	"Early far beyond":     func(s *api.EndState) { s.Peers[0].Early[1].Seq = top },
	"Early twice":          func(s *api.EndState) { s.Peers[0].Early[1].Seq = 11 },
	"Early falls":          func(s *api.EndState) { s.Peers[0].Early[0].Seq, s.Peers[0].Early[1].Seq = 12, 11 },
	"Early without bytes":  func(s *api.EndState) { s.Peers[0].Early[1].Payload = nil },
	"Early too long":       func(s *api.EndState) { s.Peers[0].Early[0].Payload = long(longest + 1) },
	"Early behind the top": func(s *api.EndState) { s.Peers[2].Early = []api.Frame{{Seq: 1, Payload: []byte("x")}} },
	"Early at the top": func(s *api.EndState) {
		s.Peers[2].Delivered, s.Peers[2].Early = top-1, []api.Frame{{Seq: top, Payload: []byte("x")}}
	},
	"Early by the million": func(s *api.EndState) { s.Peers[0].Early = make([]api.Frame, 1<<20) },
	"Queue by the million": func(s *api.EndState) { s.Peers[0].Sent, s.Peers[0].Queue = 2+1<<20, make([][]byte, 1<<20) },
}

func TestP8_7LoadRefusesWhatMayNotBe(t *testing.T) {
	for name, mar := range mars {
		s := aState()
		mar(&s)
		if e, x := xonce.Load(1, 3, 4, 3, s); e != nil || x != api.ErrXonceLoad {
			t.Errorf("%s: %v, %d", name, e, x)
		}
	}
}

// What is at the edge may be.
func TestP8_7LoadTakesTheEdges(t *testing.T) {
	full := api.PeerState{Sent: 16, Mask: 1<<15 - 1}
	for i := range mostQueue {
		full.Queue = append(full.Queue, []byte{byte(i)})
	}
	for i := uint64(2); i <= mostQueue; i++ {
		full.Early = append(full.Early, api.Frame{Seq: i, Payload: long(longest)})
	}
	isState(t, loadPair(t, 16, 16, full), api.PeerState{}, full)

	last := api.PeerState{Sent: top, Acked: top - 2, Queue: [][]byte{{1}, {2}}, Mask: 1, Delivered: top - 2, Early: []api.Frame{{Seq: top, Payload: []byte("x")}}}
	isState(t, loadPair(t, 2, 2, last), api.PeerState{}, last)
	done := api.PeerState{Sent: top, Acked: top, Delivered: top}
	isState(t, loadPair(t, 1, 1, done), api.PeerState{}, done)

	lists := api.PeerState{Queue: [][]byte{}, Early: []api.Frame{}} // empty lists are as none, in the own entry too
	isState(t, loadEnd(t, 0, 2, 1, 1, api.EndState{Peers: []api.PeerState{lists, lists}}), api.PeerState{}, api.PeerState{})
	isState(t, loadEnd(t, 0, 1, 1, 1, api.EndState{Peers: []api.PeerState{lists}}), api.PeerState{})
}

// Random states, most of which may not be, against the document's.
func TestP8_7LoadOfRandomStates(t *testing.T) {
	rnd := rand.New(rand.NewSource(87))
	near := func() uint64 { return []uint64{0, 0, top - 2}[rnd.Intn(3)] + uint64(rnd.Intn(3)) }
	taken, refused := 0, 0
	for range 60000 {
		queue := 1 + rnd.Intn(3)
		window := 1 + rnd.Intn(queue)
		p := api.PeerState{Acked: near(), Mask: uint64(rnd.Intn(4)), Delivered: near()}
		p.Sent = p.Acked + uint64(rnd.Intn(3))
		for range rnd.Intn(4) {
			p.Queue = append(p.Queue, long(1+rnd.Intn(12)/11*3072))
		}
		seq := p.Delivered
		for range rnd.Intn(3) {
			seq += uint64(rnd.Intn(4))
			p.Early = append(p.Early, api.Frame{Seq: seq, Payload: long(rnd.Intn(12))})
		}
		s := api.EndState{Peers: []api.PeerState{{}, p}}
		e, x := xonce.Load(0, 2, queue, window, s)
		want, wantErr := loadDocEnd(0, 2, queue, window, s)
		if x != wantErr || (e == nil) != (want == nil) {
			t.Fatalf("queue %d, window %d, %+v: %d; want %d", queue, window, p, x, wantErr)
		}
		if e == nil {
			refused++
			continue
		}
		taken++
		isEnd(t, e, want)
	}
	if taken < 1000 || refused < 1000 {
		t.Errorf("%d were taken, %d refused", taken, refused)
	}
}
