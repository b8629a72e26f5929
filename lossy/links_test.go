package lossy_test

import (
	"math/rand"
	"slices"
	"testing"

	"shard/api"
)

// The document's fourth example.
func TestP5_9Example(t *testing.T) {
	n := newNet(t, 9)
	isErr(t, n.Send(0, 1, []byte("a")), api.OK)
	isErr(t, n.Block(0, 1), api.OK)
	isDeliver(t, n, 0, false, docDatagram{}, api.ErrLossyBarred)
	isLook(t, n, 0, docDatagram{0, 1, "a"}, api.OK)
	isErr(t, n.Send(0, 1, []byte("b")), api.ErrLossyBarred)
	isNumber(t, n.Count().Barred, 1)
	isNumber(t, n.Heal(-1, 1), 1)
	isDeliver(t, n, 0, true, docDatagram{0, 1, "a"}, api.OK)
	isCount(t, n, api.NetCount{Sent: 1, Delivered: 1, Copied: 1, Barred: 1})
	isNumber(t, n.Len(), 1)
}

// A link is one way: what it bars is that way alone.
func TestP5_9BlockBarsOneWay(t *testing.T) {
	for _, l := range []docDatagram{{0, 1, ""}, {1, 0, ""}, {2, 2, ""}, {0, 255, ""}, {32, 33, ""}} {
		n := newNet(t, 4096)
		isErr(t, n.Block(api.Addr(l.from), api.Addr(l.to)), api.OK)
		for from := range 33 {
			for _, to := range []int{0, 1, 2, 16, 31, 32, 33, 255} {
				want := api.OK
				if from == l.from && to == l.to {
					want = api.ErrLossyBarred
				}
				if e := n.Send(api.Addr(from), api.Addr(to), []byte("x")); e != want {
					t.Errorf("Send(%d, %d) with %d to %d blocked: %d", from, to, l.from, l.to, e)
				}
			}
		}
	}
}

func TestP5_9BlockTwice(t *testing.T) {
	n := newNet(t, 4)
	for range 3 {
		isErr(t, n.Block(5, 6), api.OK)
	}
	isBlocked(t, n, api.Link{From: 5, To: 6})
	isNumber(t, n.Heal(5, 6), 1)
	isNumber(t, n.Heal(5, 6), 0)
	isBlocked(t, n)
	isErr(t, n.Send(5, 6, []byte("x")), api.OK)
	isErr(t, n.Block(5, 6), api.OK)
	isErr(t, n.Send(5, 6, []byte("x")), api.ErrLossyBarred)
	isData(t, n, "x")
}

func TestP5_10Heal(t *testing.T) {
	for _, from := range someNumbers {
		for _, to := range someNumbers {
			n := newNet(t, 4)
			var want docNet
			for _, l := range someLinks {
				isErr(t, n.Block(api.Addr(l.from), api.Addr(l.to)), api.OK)
				want.blocked[l.from][l.to] = true
			}
			if got, opened := n.Heal(from, to), want.heal(from, to); got != opened {
				t.Errorf("Heal(%d, %d): %d; want %d", from, to, got, opened)
			}
			isNet(t, n, &want)
			isNumber(t, n.Heal(from, to), 0)
		}
	}
}

func TestP5_10HealAllLeavesTheDatagrams(t *testing.T) {
	n := line(t, "abc")
	isErr(t, n.Block(0, 1), api.OK)
	isErr(t, n.Block(1, 2), api.OK)
	isErr(t, n.Block(200, 2), api.OK)
	isNumber(t, n.Heal(-1, -1), 3)
	isNumber(t, n.Heal(-1, -1), 0)
	isBlocked(t, n)
	isData(t, n, "abc")
	isDeliver(t, n, 0, false, docDatagram{0, 1, "a"}, api.OK)
	isErr(t, n.Block(0, 1), api.OK)
	isBlocked(t, n, api.Link{From: 0, To: 1})
}

func TestP5_11BlockedInOrder(t *testing.T) {
	rnd := rand.New(rand.NewSource(511))
	var all []api.Link
	for from := range 256 {
		for to := range 256 {
			all = append(all, api.Link{From: api.Addr(from), To: api.Addr(to)})
		}
	}
	for _, many := range []int{0, 1, 2, 9, 300, len(all)} {
		n := newNet(t, 1)
		var want []api.Link
		chosen := make([]bool, len(all))
		for _, i := range rnd.Perm(len(all))[:many] {
			chosen[i] = true
			isErr(t, n.Block(all[i].From, all[i].To), api.OK)
		}
		for i, l := range all {
			if chosen[i] {
				want = append(want, l)
			}
		}
		for range 3 {
			isBlocked(t, n, want...)
		}
		isNumber(t, n.Heal(-1, 7)+n.Heal(7, -1)+n.Heal(-1, -1), many)
	}
}

func TestP5_12BlockedIsNewMemory(t *testing.T) {
	n := newNet(t, 1)
	isErr(t, n.Block(1, 2), api.OK)
	isErr(t, n.Block(3, 4), api.OK)
	first, second := n.Blocked(), n.Blocked()
	spare := first[:cap(first)]
	for i := range spare {
		spare[i] = api.Link{From: 9, To: 9}
	}
	if want := []api.Link{{From: 1, To: 2}, {From: 3, To: 4}}; !slices.Equal(second, want) {
		t.Errorf("an earlier answer is now %v", second)
	}
	isBlocked(t, n, second...)
}
