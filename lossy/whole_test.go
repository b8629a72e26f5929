package lossy_test

import (
	"math/rand"
	"testing"

	"shard/api"
	"shard/lossy"
)

// traffic plays random calls on a network and on the document's at once.
type traffic struct {
	t    *testing.T
	rnd  *rand.Rand
	net  *lossy.Net
	want *docNet
}

// address is one of few, so that links meet; inside and outside are both among them.
func (p traffic) address() int { return []int{0, 1, 2, 16, 32, 33, 40, 255}[p.rnd.Intn(8)] }

// number is an address, all of them, or none.
func (p traffic) number() int {
	if p.rnd.Intn(2) == 0 {
		return []int{-1, -1, -1, -2, 256}[p.rnd.Intn(5)]
	}
	return p.address()
}

func (p traffic) place() int { return p.rnd.Intn(len(p.want.list)+3) - 1 }

func (p traffic) data() []byte {
	b := make([]byte, []int{0, 1, 2, 3, 30, 1023, 1024, 1025}[p.rnd.Intn(8)])
	p.rnd.Read(b)
	return b
}

func (p traffic) holdDatagram(d api.Datagram, e api.Errno, want docDatagram, wantErr api.Errno) {
	p.t.Helper()
	if !same(d, want) || e != wantErr {
		p.t.Fatalf("%v, %d; want %v, %d", d, e, want, wantErr)
	}
}

func (p traffic) holdNumber(got int, e api.Errno, want int, wantErr api.Errno) {
	p.t.Helper()
	if got != want || e != wantErr {
		p.t.Fatalf("%d, %d; want %d, %d", got, e, want, wantErr)
	}
}

func (p traffic) step() {
	p.t.Helper()
	a, b := p.address(), p.address()
	x, y := p.number(), p.number()
	i, keep := p.place(), p.rnd.Intn(2) == 0
	data := p.data()
	switch p.rnd.Intn(16) {
	case 0, 1, 2, 3, 4:
		p.holdNumber(0, p.net.Send(api.Addr(a), api.Addr(b), data), 0, p.want.send(a, b, data))
	case 5, 6, 7:
		p.holdNumber(0, p.net.Inject(api.Addr(a), api.Addr(b), data), 0, p.want.inject(a, b, data))
	case 8, 9:
		d, e := p.net.Deliver(i, keep)
		want, wantErr := p.want.deliver(i, keep)
		p.holdDatagram(d, e, want, wantErr)
		spoil(d.Data)
	case 10:
		d, e := p.net.Look(i)
		want, wantErr := p.want.look(i)
		p.holdDatagram(d, e, want, wantErr)
		spoil(d.Data)
	case 11:
		at := []int{i, p.place(), p.place()}[:p.rnd.Intn(4)]
		got, e := p.net.Drop(at...)
		want, wantErr := p.want.drop(at...)
		p.holdNumber(got, e, want, wantErr)
	case 12, 13:
		p.want.blocked[a][b] = true
		p.holdNumber(0, p.net.Block(api.Addr(a), api.Addr(b)), 0, api.OK)
	case 14:
		p.holdNumber(p.net.Heal(x, y), 0, p.want.heal(x, y), 0)
	case 15:
		if p.rnd.Intn(8) == 0 {
			p.holdNumber(p.net.Empty(), 0, p.want.sweep(-1, -1), 0)
		} else {
			p.holdNumber(p.net.Sweep(x, y), 0, p.want.sweep(x, y), 0)
		}
	}
	spoil(data)
}

func TestP5_AllInRandomTraffic(t *testing.T) {
	rnd := rand.New(rand.NewSource(5))
	for _, room := range []int{1, 2, 3, 7, 20} {
		for range 6 {
			p := traffic{t, rnd, newNet(t, room), &docNet{room: room}}
			for range 400 {
				p.step()
				isNet(t, p.net, p.want)
			}
		}
	}
}

// Two networks that are given the same calls answer the same, whatever others do beside them.
func TestR5NetworksAreApart(t *testing.T) {
	busy, idle := line(t, "abc"), line(t, "abc")
	isErr(t, busy.Block(0, 1), api.OK)
	isDrop(t, busy, []int{2}, 1, api.OK)
	isDeliver(t, idle, 0, false, docDatagram{0, 1, "a"}, api.OK)
	isData(t, idle, "bc")
	isBlocked(t, idle)
	isCount(t, idle, api.NetCount{Sent: 3, Delivered: 1})
	isData(t, busy, "ab")
}

// holdsNothing holds a network that is none to what R1 says of one.
func holdsNothing(t *testing.T, n *lossy.Net) {
	t.Helper()
	isErr(t, n.Send(0, 1, []byte("x")), api.ErrNil)
	isErr(t, n.Send(40, 1, nil), api.ErrNil)
	isErr(t, n.Inject(40, 1, []byte("x")), api.ErrNil)
	isErr(t, n.Inject(0, 1, long(1025)), api.ErrNil)
	isErr(t, n.Block(0, 1), api.ErrNil)
	for _, i := range []int{-1, 0, 1} {
		isDeliver(t, n, i, true, docDatagram{}, api.ErrNil)
		isDeliver(t, n, i, false, docDatagram{}, api.ErrNil)
		isLook(t, n, i, docDatagram{}, api.ErrNil)
		isDrop(t, n, []int{i}, 0, api.ErrNil)
	}
	isDrop(t, n, nil, 0, api.ErrNil)
	for _, x := range []int{-1, 0, 256} {
		isNumber(t, n.Sweep(x, -1), 0)
		isNumber(t, n.Heal(-1, x), 0)
	}
	isNumber(t, n.Empty(), 0)
	isNumber(t, n.Len(), 0)
	isNumber(t, len(n.List()), 0)
	isNumber(t, len(n.Blocked()), 0)
	isCount(t, n, api.NetCount{})
}

func TestR1NilNetwork(t *testing.T) { holdsNothing(t, nil) }

// Of one that New did not make nothing is promised but that it does not panic.
func TestR1NetworkThatNewDidNotMake(t *testing.T) { holdsNothing(t, &lossy.Net{}) }
