package lossy_test

import (
	"math"
	"slices"
	"testing"

	"shard/api"
)

// The document's third example, and what Drop does of it.
func TestP5_6DropExamples(t *testing.T) {
	n := line(t, "abcde")
	isDrop(t, n, []int{0, 5}, 0, api.ErrLossyIndex)
	isData(t, n, "abcde")
	isDrop(t, n, []int{4, 0, 4}, 2, api.OK)
	isData(t, n, "bcd")
	isCount(t, n, api.NetCount{Sent: 5, Dropped: 2})
	isDrop(t, n, nil, 0, api.OK)
	isDrop(t, n, []int{3}, 0, api.ErrLossyIndex)
	isDrop(t, n, []int{2, 1, 0}, 3, api.OK)
	isDrop(t, n, []int{0}, 0, api.ErrLossyIndex)
	isDrop(t, n, nil, 0, api.OK)
	isCount(t, n, api.NetCount{Sent: 5, Dropped: 5})
}

// All the lists of up to four places, those just beside the list among them.
func TestP5_6DropAllPlaces(t *testing.T) {
	var try func(at []int)
	try = func(at []int) {
		n := line(t, "abcd")
		want := docNet{list: []docDatagram{{0, 1, "a"}, {1, 2, "b"}, {2, 3, "c"}, {3, 4, "d"}}, count: api.NetCount{Sent: 4}}
		gone, e := want.drop(at...)
		isDrop(t, n, at, gone, e)
		isNet(t, n, &want)
		for i := -1; i <= 4 && len(at) < 4; i++ {
			try(append(slices.Clone(at), i))
		}
	}
	try(nil)
}

func TestP5_6DropRefusesWrongPlaces(t *testing.T) {
	n := line(t, "abc")
	for _, i := range append(noPlaces, 3) {
		isDrop(t, n, []int{i}, 0, api.ErrLossyIndex)
		isDrop(t, n, []int{0, i}, 0, api.ErrLossyIndex)
		isDrop(t, n, []int{i, 1, 2}, 0, api.ErrLossyIndex)
	}
	isData(t, n, "abc")
	isCount(t, n, api.NetCount{Sent: 3})
	isDrop(t, n, slices.Repeat([]int{1}, 5000), 1, api.OK)
	isData(t, n, "ac")
}

func TestP5_6DropOnBlockedLinks(t *testing.T) {
	n := line(t, "abc")
	isErr(t, n.Block(1, 2), api.OK)
	isDrop(t, n, []int{1}, 1, api.OK)
	isData(t, n, "ac")
	isBlocked(t, n, api.Link{From: 1, To: 2})
}

// What goes makes room.
func TestP5_6DropMakesRoom(t *testing.T) {
	n := newNet(t, 2)
	isErr(t, n.Send(0, 1, []byte("a")), api.OK)
	isErr(t, n.Send(0, 1, []byte("b")), api.OK)
	isDrop(t, n, []int{0}, 1, api.OK)
	isErr(t, n.Send(0, 1, []byte("c")), api.OK)
	isErr(t, n.Send(0, 1, []byte("d")), api.ErrLossyFull)
	isNumber(t, n.Sweep(0, 1), 2)
	isErr(t, n.Inject(40, 1, []byte("e")), api.OK)
	isNumber(t, n.Empty(), 1)
	isErr(t, n.Send(1, 0, []byte("f")), api.OK)
	isErr(t, n.Send(1, 0, []byte("g")), api.OK)
	isData(t, n, "fg")
	isCount(t, n, api.NetCount{Sent: 5, Injected: 1, Dropped: 4, Lost: 1})
}

// Links among which those turned about, those to themselves and those at the ends of the addresses lie.
var someLinks = []docDatagram{{0, 0, "a"}, {0, 1, "b"}, {1, 0, "c"}, {0, 32, "d"}, {32, 0, "e"}, {0, 255, "f"}, {33, 33, "g"}, {255, 255, "h"}, {255, 0, "i"}, {0, 1, "j"}, {1, 1, "k"}}

var someNumbers = []int{-1, 0, 1, 2, 32, 33, 254, 255, 256, 257, 511, 512, -2, -255, -256, -257, 1 << 32, 1<<32 + 1, math.MaxInt, math.MinInt, math.MinInt + 1}

func TestP5_7Sweep(t *testing.T) {
	for _, from := range someNumbers {
		for _, to := range someNumbers {
			n := newNet(t, 40)
			want := docNet{room: 40}
			for _, d := range someLinks {
				if d.from < 33 {
					isErr(t, n.Send(api.Addr(d.from), api.Addr(d.to), []byte(d.data)), want.send(d.from, d.to, []byte(d.data)))
				} else {
					isErr(t, n.Inject(api.Addr(d.from), api.Addr(d.to), []byte(d.data)), want.inject(d.from, d.to, []byte(d.data)))
				}
			}
			isErr(t, n.Block(0, 1), api.OK)
			want.blocked[0][1] = true
			if got, gone := n.Sweep(from, to), want.sweep(from, to); got != gone {
				t.Errorf("Sweep(%d, %d): %d; want %d", from, to, got, gone)
			}
			isNet(t, n, &want)
			isNumber(t, n.Sweep(from, to), 0)
		}
	}
}

func TestP5_7SweepExamples(t *testing.T) {
	n := newNet(t, 9)
	for i, to := range []api.Addr{0, 1, 0, 2} {
		isErr(t, n.Send(api.Addr(i), to, []byte{'a' + byte(i)}), api.OK)
	}
	isErr(t, n.Inject(255, 0, []byte("e")), api.OK)
	isNumber(t, n.Sweep(256, -1), 0)
	isNumber(t, n.Sweep(-1, 256), 0)
	isNumber(t, n.Sweep(-2, -2), 0)
	isNumber(t, n.Sweep(-1, 0), 3)
	isData(t, n, "bd")
	isNumber(t, n.Sweep(3, -1), 1)
	isNumber(t, n.Sweep(1, 1), 1)
	isCount(t, n, api.NetCount{Sent: 4, Injected: 1, Dropped: 5})
}

func TestP5_8Empty(t *testing.T) {
	n := line(t, "abcde")
	isErr(t, n.Block(1, 2), api.OK)
	isErr(t, n.Block(7, 7), api.OK)
	isNumber(t, n.Empty(), 5)
	isNumber(t, n.Empty(), 0)
	isNumber(t, n.Len(), 0)
	isData(t, n, "")
	isBlocked(t, n, api.Link{From: 1, To: 2}, api.Link{From: 7, To: 7})
	isErr(t, n.Send(1, 2, []byte("x")), api.ErrLossyBarred)
	isErr(t, n.Send(2, 1, []byte("y")), api.OK)
	isData(t, n, "y")
	isCount(t, n, api.NetCount{Sent: 6, Dropped: 5, Barred: 1})
}
