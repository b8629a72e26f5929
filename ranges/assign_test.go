package ranges_test

import (
	"slices"
	"testing"

	"shard/api"
)

func TestP6_4CostExamples(t *testing.T) {
	isCost(t, newTable(t, 0, 8), 100, 199, 3, 2, api.OK)
	x := read(t, three, 8)
	for _, c := range []struct {
		lo, hi uint64
		owner  api.Addr
		want   int
		e      api.Errno
	}{
		{200, 299, 3, 0, api.OK}, {0, 99, 3, -1, api.OK}, {0, top, 0, -2, api.OK}, {150, 160, 3, 0, api.OK}, {150, 160, 0, 2, api.OK}, {150, 160, 16, 0, api.ErrArg}, {160, 150, 16, 0, api.ErrRange},
		{160, 150, 3, 0, api.ErrRange}, {0, top, 16, 0, api.ErrArg}, {0, 0, 255, 0, api.ErrArg}, {top, 0, 0, 0, api.ErrRange}, {0, top, 15, -2, api.OK},
		{0, 0, 5, 1, api.OK}, {top, top, 5, 1, api.OK}, {5, 5, 5, 2, api.OK}, {99, 99, 3, 0, api.OK}, {99, 99, 5, 1, api.OK}, {100, 199, 5, 0, api.OK}, {100, 199, 0, -2, api.OK}, {99, 200, 5, 0, api.OK}, {200, top, 3, -1, api.OK}, {199, top, 0, 0, api.OK},
	} {
		isCost(t, x, c.lo, c.hi, c.owner, c.want, c.e)
	}
	isText(t, x, three)
}

// The limit is no matter of Cost.
func TestP6_4CostAboveTheLimit(t *testing.T) {
	x := newTable(t, 0, 1)
	isCost(t, x, 5, 9, 1, 2, api.OK)
	isCost(t, x, 0, 9, 1, 1, api.OK)
	isCost(t, comb(t, most, most), 0, top, 9, 1-most, api.OK)
	isCost(t, comb(t, most, most), 1, uint64(most-2), 9, 3-most, api.OK)
}

func TestP6_5AssignExamples(t *testing.T) {
	x := newTable(t, 0, 8)
	isAssign(t, x, 100, 199, 3, api.OK)
	isText(t, x, three)

	y := newTable(t, 0, 2)
	isAssign(t, y, 100, 199, 3, api.ErrSegments)
	isText(t, y, "0-18446744073709551615:0")
	isAssign(t, y, 0, 99, 3, api.OK)
	isText(t, y, "0-99:3 100-18446744073709551615:0")
	isAssign(t, y, 50, 60, 5, api.ErrSegments)
	isText(t, y, "0-99:3 100-18446744073709551615:0")
	isAssign(t, y, 100, 149, 3, api.OK)
	isText(t, y, "0-149:3 150-18446744073709551615:0")
}

func TestP6_5AssignRefusals(t *testing.T) {
	x := read(t, three, 3)
	isAssign(t, x, 9, 8, 16, api.ErrRange)
	isAssign(t, x, 9, 8, 0, api.ErrRange)
	isAssign(t, x, top, 0, 0, api.ErrRange)
	for owner := 16; owner < 256; owner++ {
		isAssign(t, x, 8, 9, api.Addr(owner), api.ErrArg)
		isAssign(t, x, 0, top, api.Addr(owner), api.ErrArg)
	}
	isAssign(t, x, 8, 9, 15, api.ErrSegments)
	isAssign(t, x, 0, 9, 15, api.ErrSegments)
	isText(t, x, three)
	isAssign(t, x, 0, 99, 15, api.OK)
	isText(t, x, "0-99:15 100-199:3 200-18446744073709551615:0")
}

// At the limit all that costs nothing goes, and what costs one does not.
func TestP6_5AssignAtTheLimit(t *testing.T) {
	x := comb(t, most, most)
	isAssign(t, x, top, top, 9, api.ErrSegments)
	isAssign(t, x, 5, 5, 9, api.OK)
	isNumber(t, x.Len(), most)
	isAssign(t, x, 5, 5, 0, api.OK)
	isNumber(t, x.Len(), most-2)
	isAssign(t, x, top, top, 9, api.OK)
	isAssign(t, x, top-5, top-5, 9, api.ErrSegments)
	isAssign(t, x, top-1, top-1, 8, api.OK)
	isNumber(t, x.Len(), most)
	isAssign(t, x, 0, top, 1, api.OK)
	isText(t, x, "0-18446744073709551615:1")
}

// Each range between two edges, given to each of some hosts, in each of some tables, at each limit that matters.
func TestP6_4And6_5OfAllRanges(t *testing.T) {
	tables := [][]api.Addr{
		slices.Repeat([]api.Addr{0}, len(edges)),
		{0, 1, 0, 1, 0, 1, 0, 1, 0, 1, 0, 1, 0},
		{0, 0, 1, 1, 1, 2, 2, 0, 0, 0, 2, 1, 1},
		{2, 0, 0, 0, 0, 0, 0, 0, 0, 0, 0, 0, 2},
		{0, 0, 0, 0, 0, 1, 1, 1, 1, 2, 2, 2, 2},
	}
	for _, owner := range tables {
		for first := range edges {
			for last := range edges {
				for _, host := range []api.Addr{0, 1, 2, 15, 16} {
					lo, hi := edges[first], lastOf(last)
					want := &docTable{slices.Clone(owner), most}
					want.limit = len(want.list())
					for range 3 {
						holdAssign(t, &docTable{slices.Clone(owner), want.limit}, lo, hi, host)
						want.limit++
					}
				}
			}
		}
	}
}

// holdAssign makes the document's table by Read, and holds Cost, Owns and Assign of a range against it.
func holdAssign(t *testing.T, want *docTable, lo, hi uint64, owner api.Addr) {
	t.Helper()
	x := read(t, want.text(), want.limit)
	cost, e := want.cost(lo, hi, owner)
	isCost(t, x, lo, hi, owner, cost, e)
	if cost > 2 {
		t.Errorf("Cost(%d, %d, %d): %d", lo, hi, owner, cost)
	}
	isTable(t, x, want)
	isOwns(t, x, lo, hi, owner, want.owns(lo, hi, owner))
	isAssign(t, x, lo, hi, owner, want.assign(lo, hi, owner))
	isTable(t, x, want)
	isOwns(t, x, lo, hi, owner, want.owns(lo, hi, owner))
}
