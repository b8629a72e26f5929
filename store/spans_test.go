package store_test

import (
	"math"
	"testing"

	"shard/api"
)

// edges are keys close by the ends of all keys, and others between.
var edges = []uint64{0, 1, 2, 9, 10, 11, 1 << 32, 1<<63 - 1, 1 << 63, top - 2, top - 1, top}

func TestP7_10To7_15AllRanges(t *testing.T) {
	for _, step := range []int{1, 2, 3, 5} {
		s, want := newShelf(t, 20), newDocShelf(20)
		for i := 0; i < len(edges); i += step {
			isSet(t, s, edges[i], long(i), true, api.OK)
			want.set(edges[i], long(i))
		}
		for _, lo := range edges {
			for _, hi := range edges {
				isSpan(t, s, want, lo, hi)
			}
		}
	}
}

func TestP7_11Scan(t *testing.T) {
	a, b, c := pair(7, "x"), pair(8, ""), pair(top, "yz")
	s := shelfOf(t, 3, b, c, a)
	isScan(t, s, 0, top, 3, []api.Pair{a, b, c}, false)
	isScan(t, s, 0, top, 2, []api.Pair{a, b}, true)
	isScan(t, s, 0, top, 0, nil, true)
	isScan(t, s, 0, top, -5, nil, true)
	isScan(t, s, 0, top, math.MinInt, nil, true)
	isScan(t, s, 8, top, 1, []api.Pair{b}, true)
	isScan(t, s, 8, top-1, 1, []api.Pair{b}, false)
	isScan(t, s, 9, top-1, 0, nil, false)
	isScan(t, s, 9, top-1, -1, nil, false)
	isScan(t, s, 8, 7, 5, nil, false)
	isScan(t, s, 8, 7, -5, nil, false)
	isScan(t, s, top, 0, 5, nil, false)
	isScan(t, s, top, top, math.MaxInt, []api.Pair{c}, false)
}

func TestP7_12Nth(t *testing.T) {
	s := shelfOf(t, 4, pair(3, ""), pair(5, ""), pair(9, ""), pair(top, ""))
	for i, key := range []uint64{3, 5, 9, top} {
		isNth(t, s, 0, top, i, key, true)
	}
	isNth(t, s, 4, 9, 0, 5, true)
	isNth(t, s, 4, 9, 1, 9, true)
	isNth(t, s, 4, 9, 2, 0, false)
	isNth(t, s, 4, 8, 1, 0, false)
	for _, i := range []int{-1, 4, math.MaxInt, math.MaxInt - 3, math.MinInt} {
		isNth(t, s, 0, top, i, 0, false)
		isNth(t, s, 9, top, i, 0, false)
	}
	isNth(t, s, 9, 3, 0, 0, false)
	isNth(t, s, 9, 3, -1, 0, false)
	isNth(t, s, 9, 3, -2, 0, false)
	isNth(t, s, 6, 8, 0, 0, false)
}

func TestP7_13Cut(t *testing.T) {
	a, b, c := pair(0, "x"), pair(8, ""), pair(top, "yz")
	for _, row := range []struct {
		lo, hi    uint64
		cut, left []api.Pair
		e         api.Errno
	}{
		{0, top, []api.Pair{a, b, c}, nil, api.OK},
		{0, 0, []api.Pair{a}, []api.Pair{b, c}, api.OK},
		{top, top, []api.Pair{c}, []api.Pair{a, b}, api.OK},
		{1, 7, nil, []api.Pair{a, b, c}, api.OK},
		{1, 8, []api.Pair{b}, []api.Pair{a, c}, api.OK},
		{8, top - 1, []api.Pair{b}, []api.Pair{a, c}, api.OK},
		{0, 8, []api.Pair{a, b}, []api.Pair{c}, api.OK},
		{9, 8, nil, []api.Pair{a, b, c}, api.ErrSpan},
		{top, 0, nil, []api.Pair{a, b, c}, api.ErrSpan},
	} {
		s := shelfOf(t, 3, a, b, c)
		digest := s.Digest(0, top)
		isCut(t, s, row.lo, row.hi, row.cut, row.e)
		isShelf(t, s, row.left...)
		isErr(t, s.Lay(row.cut), api.OK)
		isShelf(t, s, a, b, c)
		isNumber(t, s.Digest(0, top), digest)
	}
}

func TestP7_14LayRefusals(t *testing.T) {
	tooLong, there := pair(20, string(long(65))), pair(7, "q")
	for i, row := range []struct {
		pairs []api.Pair
		e     api.Errno
	}{
		{nil, api.OK},
		{[]api.Pair{}, api.OK},
		{[]api.Pair{pair(9, ""), pair(9, "")}, api.ErrRising},
		{[]api.Pair{pair(9, ""), pair(8, "")}, api.ErrRising},
		{[]api.Pair{tooLong, pair(21, ""), pair(20, "")}, api.ErrRising},
		{[]api.Pair{there, pair(7, "")}, api.ErrRising},
		{[]api.Pair{pair(1, ""), pair(2, ""), pair(3, ""), pair(4, ""), pair(4, "")}, api.ErrRising},
		{[]api.Pair{pair(top, ""), pair(0, "")}, api.ErrRising},
		{[]api.Pair{there, tooLong}, api.ErrValue},
		{[]api.Pair{tooLong}, api.ErrValue},
		{[]api.Pair{pair(1, ""), pair(2, ""), pair(3, ""), tooLong}, api.ErrValue},
		{[]api.Pair{there}, api.ErrThere},
		{[]api.Pair{pair(6, ""), there, pair(8, "")}, api.ErrThere},
		{[]api.Pair{pair(1, ""), pair(2, ""), pair(3, ""), there}, api.ErrThere},
		{[]api.Pair{pair(1, ""), pair(2, ""), pair(3, "")}, api.ErrShelf},
	} {
		s := shelfOf(t, 3, pair(7, "seven"))
		if e := s.Lay(row.pairs); e != row.e {
			t.Errorf("row %d: %d; want %d", i, e, row.e)
		}
		isShelf(t, s, pair(7, "seven"))
	}
}

func TestP7_14Lay(t *testing.T) {
	s := shelfOf(t, 5, pair(7, "seven"))
	isErr(t, s.Lay([]api.Pair{pair(0, ""), pair(6, string(long(longest))), pair(top, "z")}), api.OK)
	isShelf(t, s, pair(0, ""), pair(6, string(long(longest))), pair(7, "seven"), pair(top, "z"))
	isErr(t, s.Lay([]api.Pair{pair(8, "a"), pair(9, "a")}), api.ErrShelf)
	isErr(t, s.Lay([]api.Pair{pair(8, "a")}), api.OK)
	isErr(t, s.Lay([]api.Pair{pair(9, "a")}), api.ErrShelf)
	isNumber(t, s.Len(), 5)
	isNumber(t, s.Bytes(), longest+7)
}

func TestP7_15Digest(t *testing.T) {
	s := newShelf(t, 5)
	isNumber(t, s.Digest(0, top), hashOfNone)
	isSet(t, s, 97, nil, true, api.OK)
	isNumber(t, s.Digest(0, 96), hashOfNone)
	isNumber(t, s.Digest(98, 97), hashOfNone)
	isNumber(t, s.Digest(98, top), hashOfNone)
	// Ten bytes: seven zeros, 97, two zeros.
	want := hashOfNone
	for i := range 10 {
		if i == 7 {
			want ^= 97
		}
		want *= 1099511628211
	}
	isNumber(t, s.Digest(97, 97), want)
	isNumber(t, s.Digest(0, top), want)
}

// Each thing that a digest is made of counts.
func TestP7_15DigestTellsShelvesApart(t *testing.T) {
	seen := map[uint64]int{}
	for i, pairs := range [][]api.Pair{
		{}, {pair(0, "")}, {pair(1, "")}, {pair(1<<56, "")}, {pair(0, "a")}, {pair(0, "b")}, {pair(0, "ab")}, {pair(0, "\x00")}, {pair(0, "\x00\x00")},
		{pair(0, "a"), pair(1, "b")}, {pair(0, "b"), pair(1, "a")}, {pair(0, ""), pair(1, "ab")}, {pair(0, "ab"), pair(1, "")}, {pair(0, string(long(64)))}, {pair(0, string(long(63)))},
	} {
		sum := shelfOf(t, 9, pairs...).Digest(0, top)
		if other, there := seen[sum]; there {
			t.Errorf("shelves %d and %d have one digest", other, i)
		}
		seen[sum] = i
	}
}
