package ranges_test

import (
	"math/rand"
	"slices"
	"strings"
	"testing"

	"shard/api"
	"shard/ranges"
)

// Many changes, one behind another, of each of which the document's table is held against.
func TestP6_AllInRandomChanges(t *testing.T) {
	rnd := rand.New(rand.NewSource(6))
	for _, limit := range []int{1, 2, 3, 4, 6, 13, most} {
		for _, hosts := range []int{2, 3, 17} {
			x, want := newTable(t, 0, limit), newDoc(0, limit)
			for range 250 {
				lo, hi := edges[rnd.Intn(len(edges))], lastOf(rnd.Intn(len(edges)))
				owner := api.Addr(rnd.Intn(hosts))
				ahead := x.List()
				old, oldPart := x.All(), x.Within(lo, hi)
				part := want.within(lo, hi)
				clone := x.Clone()

				cost, e := want.cost(lo, hi, owner)
				isCost(t, x, lo, hi, owner, cost, e)
				isAssign(t, x, lo, hi, owner, want.assign(lo, hi, owner))
				isTable(t, x, want)

				isWalk(t, old, ahead...)
				isWalk(t, oldPart, part...)
				isWalk(t, x.Within(lo, hi), want.within(lo, hi)...)
				isWalk(t, clone.All(), ahead...)
			}
		}
	}
}

// The segments are fixed by who owns which key: two ways there give one table.
func TestP6_5OneTableWhateverLedThere(t *testing.T) {
	x, y := newTable(t, 0, 8), newTable(t, 3, 8)
	for key := uint64(100); key < 200; key++ {
		isAssign(t, x, key, key, 3, api.OK)
	}
	isAssign(t, y, 200, top, 0, api.OK)
	isAssign(t, y, 0, 50, 0, api.OK)
	isAssign(t, y, 40, 99, 0, api.OK)
	isText(t, x, three)
	isText(t, y, three)
	isDiff(t, x, y)
}

func TestP6_10Clone(t *testing.T) {
	x := read(t, three, 5)
	y := x.Clone()
	if x == y {
		t.Fatal("Clone gives the table itself")
	}
	isNumber(t, y.Limit(), 5)
	isText(t, y, three)
	isAssign(t, x, 0, 9, 8, api.OK)
	isText(t, y, three)
	isAssign(t, y, 120, 129, 9, api.OK)
	isText(t, x, "0-9:8 10-99:0 100-199:3 200-18446744073709551615:0")
	isText(t, y, "0-99:0 100-119:3 120-129:9 130-199:3 200-18446744073709551615:0")
	isAssign(t, y, 150, 150, 9, api.ErrSegments)
	isAssign(t, x, 0, top, 1, api.OK)
	isText(t, y.Clone(), y.Text())
}

func TestP6_10LoadKeepsNothing(t *testing.T) {
	given := make([]api.Segment, 0, 9)
	given = append(given, seg(0, 99, 0), seg(100, 150, 3), seg(151, 199, 3), seg(200, top, 0))
	behind := given[:9]
	x, e := ranges.Load(given, 8)
	isErr(t, e, api.OK)
	if !slices.Equal(behind, []api.Segment{seg(0, 99, 0), seg(100, 150, 3), seg(151, 199, 3), seg(200, top, 0), {}, {}, {}, {}, {}}) {
		t.Errorf("Load made %v of what it was given", behind)
	}
	spoil(given, seg(7, 7, 7))
	isText(t, x, three)
	isAssign(t, x, 0, 0, 1, api.OK)
	if given[0] != seg(7, 7, 7) {
		t.Errorf("Assign wrote %v into what Load was given", given[0])
	}
}

func TestP6_10AnswersAreNewMemory(t *testing.T) {
	x, other := read(t, three, 8), newTable(t, 5, 1)
	walk := x.All()
	l1, l2 := x.List(), x.List()
	s1, s2 := x.Shares(), x.Shares()
	d1, _ := ranges.Diff(x, other)
	d2, _ := ranges.Diff(x, other)
	if !apart(l1, l2) || !apart(s1, s2) || !apart(d1, d2) {
		t.Error("two answers share memory")
	}
	spoil(l1, seg(9, 9, 9))
	spoil(s1, api.Share{Host: 9})
	spoil(d1, api.Change{From: 9})
	isText(t, x, three)
	isText(t, other, "0-18446744073709551615:5")
	isWalk(t, walk, l2...)
	if !slices.Equal(x.Shares(), s2) || !slices.Equal(x.List(), l2) {
		t.Errorf("what a caller wrote shows: %v, %v", x.Shares(), x.List())
	}
	isDiff(t, x, other, d2...)
}

// holdsNothing holds a table that is none to what the document says of a nil one.
func holdsNothing(t *testing.T, x *ranges.Table) {
	t.Helper()
	isNumber(t, x.Limit(), 0)
	isNumber(t, x.Len(), 0)
	for _, key := range edges {
		if x.Lookup(key) != api.NoOne || x.Segment(key) != seg(0, 0, api.NoOne) {
			t.Errorf("key %d: %d, %v", key, x.Lookup(key), x.Segment(key))
		}
		for _, hi := range edges {
			for _, owner := range []api.Addr{0, 15, 16, api.NoOne} {
				isOwns(t, x, key, hi, owner, false)
				isCost(t, x, key, hi, owner, 0, api.ErrNil)
				isAssign(t, x, key, hi, owner, api.ErrNil)
			}
			isWalk(t, x.Within(key, hi))
		}
	}
	isWalk(t, x.All())
	isNumber(t, len(x.List()), 0)
	isShares(t, x)
	isText(t, x, "")
	if x.Clone() != nil {
		t.Errorf("Clone: %v", x.Clone())
	}
}

func TestP6_11NilTable(t *testing.T) { holdsNothing(t, nil) }

// Of one that the package did not make nothing is promised but that it does not panic.
func TestP6_12TableThatThePackageDidNotMake(t *testing.T) { holdsNothing(t, &ranges.Table{}) }

// Work that grew with the square of what is given would not come to an end here.
func TestP6_12WorkOnMuch(t *testing.T) {
	const many = 1 << 20
	segs := make([]api.Segment, many)
	for i := range segs {
		segs[i] = seg(uint64(i), uint64(i), 1)
	}
	segs[many-1].Hi = top
	x, e := ranges.Load(segs, 1)
	isErr(t, e, api.OK)
	isText(t, x, "0-18446744073709551615:1")

	_, e = ranges.Load(combOf(many), most)
	isErr(t, e, api.ErrSegments)

	s := strings.Repeat("0-9:1 ", many)
	_, at, e := ranges.Read(s, 1)
	if at != len(s) || e != api.ErrTabText {
		t.Errorf("Read of many words: %d, %d", at, e)
	}
	_, at, e = ranges.Read(strings.Repeat("9", many), 1)
	if at != 0 || e != api.ErrTabText {
		t.Errorf("Read of a long word: %d, %d", at, e)
	}

	a, b := comb(t, most, most), comb(t, most-1, most)
	for range 400 {
		isNumber(t, len(a.Shares()), 2)
		isDiff(t, a, b, api.Change{Lo: most - 1, Hi: top, From: 1, To: 0})
		isAssign(t, a, 4000, 4000, 9, api.OK)
		isAssign(t, a, 4000, 4000, 0, api.OK)
	}
}
