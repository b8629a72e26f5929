package xonce_test

import (
	"bytes"
	"math/rand"
	"slices"
	"testing"

	"shard/api"
	"shard/xonce"
)

// traffic plays random calls on an end and on the document's at once.
type traffic struct {
	t    *testing.T
	rnd  *rand.Rand
	end  *xonce.End
	want *docEnd
}

// host is mostly a peer.
func (p traffic) host() int {
	if p.rnd.Intn(12) == 0 {
		return []int{p.want.self, p.want.hosts, 16, 255}[p.rnd.Intn(4)]
	}
	return p.rnd.Intn(p.want.hosts)
}

func (p traffic) payload() []byte {
	b := make([]byte, []int{1, 1, 1, 2, 5, 9, 0, longest, longest + 1}[p.rnd.Intn(6+p.rnd.Intn(2)*p.rnd.Intn(4))])
	p.rnd.Read(b)
	return b
}

// message is mostly one that goes with what the peer's state is.
func (p traffic) message(from int) api.Message {
	var known docPeer
	if from < p.want.hosts {
		known = p.want.peers[from]
	}
	m := api.Message{Kind: api.KData, Seq: known.delivered + uint64(p.rnd.Intn(p.want.window+4)) - 2}
	if p.rnd.Intn(2) == 0 {
		m.Payload = p.payload()
	} else {
		m = ack(known.acked+uint64(p.rnd.Intn(4))-1, uint64(p.rnd.Intn(1<<p.rnd.Intn(p.want.queue+1))))
	}
	switch p.rnd.Intn(30) {
	case 0:
		extras[p.rnd.Intn(len(extras))](&m)
	case 1:
		m.Kind = api.Kind(p.rnd.Intn(14))
	case 2:
		m.Seq = []uint64{0, 1, top, top - 1}[p.rnd.Intn(4)]
	case 3:
		m.Mask ^= 1 << p.rnd.Intn(64)
	}
	return m
}

// step plays one call, and spoils all that was handed in and answered.
func (p *traffic) step() {
	p.t.Helper()
	before := shown(p.want.state())
	h := p.host()
	var got, want any
	var x, wantErr api.Errno
	switch p.rnd.Intn(8) {
	case 0, 1, 2:
		payload := p.payload()
		var outs []api.Out
		outs, x = p.end.Send(api.Addr(h), payload)
		want, wantErr = p.want.send(h, payload)
		got = shown(outs)
		spoil(payload)
		spoilOuts(outs)
	case 3, 4, 5, 6:
		m := p.message(h)
		var taken api.Taken
		want, wantErr = p.want.take(h, m)
		taken, x = p.end.Take(api.Addr(h), m)
		got = shown(taken)
		spoil(m.Payload)
		spoilTaken(taken)
	case 7:
		s := p.end.State()
		p.end = loadEnd(p.t, api.Addr(p.want.self), p.want.hosts, p.want.queue, p.want.window, s)
		spoilState(s)
		got, want = shown(nil), nil
	}
	if got != shown(want) || x != wantErr {
		p.t.Fatalf("%v, %d; want %v, %d", got, x, shown(want), wantErr)
	}
	isEnd(p.t, p.end, p.want)
	if x != api.OK && shown(p.end.State()) != before {
		p.t.Fatalf("error %d, and %+v became of %s", x, p.end.State(), before)
	}
}

func TestP8_AllInRandomTraffic(t *testing.T) {
	rnd := rand.New(rand.NewSource(8))
	for _, c := range []struct{ hosts, self, queue, window int }{{2, 0, 1, 1}, {2, 1, 4, 2}, {3, 1, 3, 3}, {4, 3, 16, 5}, {2, 0, 16, 16}, {16, 7, 2, 1}} {
		for _, start := range []uint64{0, 0, 1 << 33, top - 30} {
			s := api.EndState{Peers: make([]api.PeerState, c.hosts)}
			for h := range s.Peers {
				if h != c.self {
					s.Peers[h] = api.PeerState{Sent: start, Acked: start, Delivered: start}
				}
			}
			want, x := loadDocEnd(c.self, c.hosts, c.queue, c.window, s)
			isErr(t, x, api.OK)
			p := traffic{t, rnd, loadEnd(t, api.Addr(c.self), c.hosts, c.queue, c.window, s), want}
			for range 250 {
				p.step()
			}
		}
	}
}

// holdsNothing holds an end that is none to what R1 and the promises say of one.
func holdsNothing(t *testing.T, e *xonce.End) {
	t.Helper()
	for _, h := range []api.Addr{0, 1, 15, 16, 255} {
		isSendRefused(t, e, h, []byte("x"), api.ErrNil)
		isSendRefused(t, e, h, nil, api.ErrNil)
		isSendRefused(t, e, h, long(longest+1), api.ErrNil)
		for _, m := range []api.Message{{}, data(1, "x"), data(1, ""), ack(0, 0), ack(9, 9), {Kind: api.KGet}} {
			isTakeRefused(t, e, h, m, api.ErrNil)
		}
		isRoom(t, e, h, 0)
	}
	isTick(t, e)
	isCalm(t, e, false)
	isState(t, e)
}

func TestR1NilEnd(t *testing.T) { holdsNothing(t, nil) }

// Of one that was made by neither New nor Load nothing is promised but that it does not panic.
func TestR1EndThatWasNotMade(t *testing.T) { holdsNothing(t, &xonce.End{}) }

// What is handed in is left as it is, its spare room too.
func TestR4ArgumentsAreNotChanged(t *testing.T) {
	payload := append(make([]byte, 0, 8), "own"...)
	isOwn := func() {
		t.Helper()
		if !bytes.Equal(payload[:8], []byte("own\x00\x00\x00\x00\x00")) {
			t.Fatalf("%q", payload[:8])
		}
	}
	e := newEnd(t, 0, 2, 4, 4)
	e.Send(1, payload)
	isOwn()
	for _, n := range []uint64{2, 1, 3} {
		e.Take(1, api.Message{Kind: api.KData, Seq: n, Payload: payload})
		isOwn()
	}

	s := aState()
	s.Peers[0].Queue = append(make([][]byte, 0, 9), s.Peers[0].Queue...)
	s.Peers[0].Early = append(make([]api.Frame, 0, 9), s.Peers[0].Early...)
	before, queue, early := shown(s), s.Peers[0].Queue[:9], s.Peers[0].Early[:9]
	e = loadEnd(t, 1, 3, 4, 3, s)
	e.Send(0, payload)
	e.Take(0, api.Message{Kind: api.KData, Seq: 10, Payload: payload})
	e.Take(0, ack(4, 0))
	if shown(s) != before || slices.ContainsFunc(queue[3:], func(b []byte) bool { return b != nil }) || shown(early[2:]) != shown(make([]api.Frame, 7)) {
		t.Errorf("Load's state became %+v, %v, %v", s, queue, early)
	}
}

// What is handed in is not kept: it may be written over.
func TestR4ArgumentsAreNotKept(t *testing.T) {
	e := newEnd(t, 0, 2, 4, 4)
	payload := []byte("own")
	e.Send(1, payload)
	spoil(payload)
	isTick(t, e, out(1, data(1, "own")))
	m := data(2, "early")
	e.Take(1, m)
	spoil(m.Payload)
	m = data(1, "now")
	taken, _ := e.Take(1, m)
	spoil(m.Payload)
	if shown(taken.Ups) != shown([]api.Up{up(1, 1, "now"), up(1, 2, "early")}) {
		t.Errorf("%v", taken.Ups)
	}
	s := aState()
	e = loadEnd(t, 1, 3, 4, 3, s)
	spoilState(s)
	isState(t, e, aState().Peers...)
}

// One list under several names, handed in, becomes lists that share nothing.
func TestR4AnswersAreNewMemory(t *testing.T) {
	shared := []byte("shared")
	queue := [][]byte{shared, shared[:3], shared[2:], shared}
	early := []api.Frame{{Seq: 2, Payload: shared}, {Seq: 3, Payload: shared[1:]}, {Seq: 4, Payload: shared}}
	p := api.PeerState{Sent: 4, Queue: queue, Early: early}
	s := api.EndState{Peers: []api.PeerState{p, {}, p}}
	e := loadEnd(t, 1, 3, 5, 4, s)
	one, two := e.State(), e.State()
	ticked, again := e.Tick(), e.Tick()
	sent, _ := e.Send(0, shared)
	acked, _ := e.Take(0, ack(2, 0))
	more, _ := e.Send(2, shared)
	handed, _ := e.Take(2, api.Message{Kind: api.KData, Seq: 1, Payload: shared})
	three, third := e.State(), e.Tick()
	rooms := append(roomOf(shared), append(roomOf(queue), roomOf(early)...)...)
	rooms = append(rooms, roomOf(s.Peers)...)
	for _, state := range []api.EndState{one, two, three} {
		rooms = append(rooms, roomsOfState(state)...)
	}
	for _, list := range [][]api.Out{ticked, again, sent, acked.Mails, more, handed.Mails, third} {
		rooms = append(rooms, roomsOfOuts(list)...)
	}
	rooms = append(rooms, roomsOfUps(handed.Ups)...)
	if len(handed.Ups) != 4 || len(acked.Mails) != 1 || len(ticked) != 8 || !apart(rooms) {
		t.Errorf("%d, %d, %d lists, of which some share memory", len(handed.Ups), len(acked.Mails), len(ticked))
	}
	want := shown(three)
	for _, list := range [][]api.Out{ticked, again, sent, acked.Mails, more, handed.Mails, third} {
		spoilOuts(list)
	}
	spoilTaken(handed)
	spoilState(one)
	spoilState(two)
	if got := shown(e.State()); got != want {
		t.Errorf("%s; want %s", got, want)
	}
	spoilState(three)
	if got := shown(e.State()); got != want {
		t.Errorf("%s; want %s", got, want)
	}
}

// An end loaded with another's state is one of its own.
func TestR5EndsAreApart(t *testing.T) {
	busy := sentFour(t)
	idle := loadEnd(t, 0, 3, 4, 2, busy.State())
	isTake(t, busy, 1, ack(3, 0), true, nil, out(1, data(4, "d")))
	isSend(t, busy, 1, "e", out(1, data(5, "e")))
	isTake(t, busy, 2, data(2, "y"), true, nil, out(2, ack(0, 1)))
	isState(t, idle, api.PeerState{}, api.PeerState{Sent: 4, Queue: [][]byte{{'a'}, {'b'}, {'c'}, {'d'}}}, api.PeerState{})
	isTick(t, idle, out(1, data(1, "a")), out(1, data(2, "b")))
	isTake(t, idle, 2, data(1, "x"), true, []api.Up{up(2, 1, "x")}, out(2, ack(1, 0)))
	isTake(t, busy, 2, data(1, "z"), true, []api.Up{up(2, 1, "z"), up(2, 2, "y")}, out(2, ack(2, 0)))
}
