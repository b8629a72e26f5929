package ranges_test

import (
	"math"
	"math/rand"
	"slices"
	"testing"

	"shard/api"
	"shard/ranges"
)

var noLimits = []int{0, -1, most + 1, most + 2, 1 << 32, 1<<32 + 1, math.MaxInt, math.MinInt}

func TestP6_1New(t *testing.T) {
	for owner := range 256 {
		for _, limit := range append(slices.Clone(noLimits), 1, 2, 3, most-1, most) {
			x, e := ranges.New(api.Addr(owner), limit)
			want := api.OK
			switch {
			case slices.Contains(noLimits, limit):
				want = api.ErrLimit
			case owner > 15:
				want = api.ErrArg
			}
			if e != want || (x != nil) != (want == api.OK) {
				t.Errorf("New(%d, %d): %v, %d; want %d", owner, limit, x, e, want)
			}
			if e == api.OK {
				isTable(t, x, newDoc(api.Addr(owner), limit))
			}
		}
	}
}

func TestP6_1NewExample(t *testing.T) {
	x := newTable(t, 0, 8)
	isText(t, x, "0-18446744073709551615:0")
	isNumber(t, x.Len(), 1)
	isWalk(t, x.All(), seg(0, top, 0))
}

// holdLoad holds Load against the document's, and what it was given against a copy.
func holdLoad(t *testing.T, segs []api.Segment, limit int) {
	t.Helper()
	given := slices.Clone(segs)
	x, e := ranges.Load(given, limit)
	want, _, wantErr := docLoad(segs, limit)
	if e != wantErr || (x != nil) != (wantErr == api.OK) {
		t.Errorf("Load(%v, %d): %v, %d; want %d", segs, limit, x, e, wantErr)
		return
	}
	if !slices.Equal(given, segs) {
		t.Errorf("Load(%v, %d) made %v of what it was given", segs, limit, given)
	}
	if e == api.OK && (!slices.Equal(x.List(), want) || x.Len() != len(want) || x.Limit() != limit) {
		t.Errorf("Load(%v, %d): %v; want %v", segs, limit, x.List(), want)
	}
}

func TestP6_2LoadExamples(t *testing.T) {
	for _, c := range []struct {
		segs  []api.Segment
		limit int
		want  api.Errno
	}{
		{[]api.Segment{seg(0, 9, 1), seg(10, top, 1)}, 1, api.OK},
		{[]api.Segment{seg(0, 9, 1), seg(11, top, 2)}, 4, api.ErrTable},
		{[]api.Segment{seg(0, 9, 99), seg(11, top, 2)}, 4, api.ErrArg},
		{[]api.Segment{seg(0, top, 1), seg(0, 5, 2)}, 4, api.ErrTable},
		{[]api.Segment{}, 4, api.ErrTable},
		{nil, 4, api.ErrTable},
		{[]api.Segment{}, 0, api.ErrLimit},
		{nil, most + 1, api.ErrLimit},
	} {
		_, e := ranges.Load(c.segs, c.limit)
		isErr(t, e, c.want)
		holdLoad(t, c.segs, c.limit)
	}
	x, _ := ranges.Load([]api.Segment{seg(0, 9, 1), seg(10, top, 1)}, 1)
	isText(t, x, "0-18446744073709551615:1")
	isNumber(t, x.Len(), 1)
}

// The errors of one segment come in the document's order, and an earlier segment's ahead of a later one's.
func TestP6_2LoadOrderOfErrors(t *testing.T) {
	for _, c := range []struct {
		segs []api.Segment
		want api.Errno
	}{
		{[]api.Segment{seg(5, 3, 99)}, api.ErrTable},
		{[]api.Segment{seg(1, top, 1)}, api.ErrTable},
		{[]api.Segment{seg(0, 9, 16)}, api.ErrArg},
		{[]api.Segment{seg(0, 9, 15)}, api.ErrTable},
		{[]api.Segment{seg(0, 9, 1), seg(10, 9, 99)}, api.ErrRange},
		{[]api.Segment{seg(0, 9, 1), seg(10, 0, 1)}, api.ErrRange},
		{[]api.Segment{seg(0, 9, 1), seg(10, 10, 99)}, api.ErrArg},
		{[]api.Segment{seg(0, 9, 1), seg(9, 3, 99)}, api.ErrTable},
		{[]api.Segment{seg(0, 9, 1), seg(10, 3, 1), seg(0, 0, 99)}, api.ErrRange},
		{[]api.Segment{seg(0, 9, 255), seg(10, 3, 1)}, api.ErrArg},
		{[]api.Segment{seg(0, 0, 1), seg(0, 0, 1)}, api.ErrTable},
		{[]api.Segment{seg(0, 0, 1), seg(1, 0, 1)}, api.ErrRange},
		{[]api.Segment{seg(0, top-1, 1)}, api.ErrTable},
		{[]api.Segment{seg(0, top-1, 1), seg(top, top, 1)}, api.OK},
		{[]api.Segment{seg(0, top-1, 1), seg(top, top-1, 1)}, api.ErrRange},
		{[]api.Segment{seg(0, top-1, 1), seg(top, top, 1), seg(0, 0, 1)}, api.ErrTable},
		{[]api.Segment{seg(0, top, 1), seg(top, top, 1)}, api.ErrTable},
		{[]api.Segment{seg(0, top, 1), seg(0, top, 1)}, api.ErrTable},
		{[]api.Segment{seg(0, top, 1), seg(1, 0, 99)}, api.ErrTable},
		{[]api.Segment{seg(0, 9, 1), seg(10, 19, 2), seg(20, 29, 3)}, api.ErrTable},
	} {
		// With a limit of one the limit's own error must come behind all of these.
		for _, limit := range []int{1, most} {
			x, e := ranges.Load(c.segs, limit)
			if e != c.want || (x != nil) != (c.want == api.OK) {
				t.Errorf("Load(%v, %d): %d; want %d", c.segs, limit, e, c.want)
			}
			holdLoad(t, c.segs, limit)
		}
	}
}

// All the lists of up to three segments whose numbers are of few, at each limit that matters.
func TestP6_2LoadOfAllShortLists(t *testing.T) {
	var all []api.Segment
	for _, lo := range []uint64{0, 1, 2, top} {
		for _, hi := range []uint64{0, 1, top - 1, top} {
			for _, host := range []api.Addr{0, 15, 16} {
				all = append(all, seg(lo, hi, host))
			}
		}
	}
	var try func(segs []api.Segment)
	try = func(segs []api.Segment) {
		for limit := range 4 {
			holdLoad(t, segs, limit)
		}
		for _, s := range all {
			if len(segs) < 3 {
				try(append(slices.Clone(segs), s))
			}
		}
	}
	try(nil)
}

// Neighbours of one owner count once against the limit, however many there are.
func TestP6_2LoadJoinsAheadOfTheLimit(t *testing.T) {
	for _, n := range []int{1, 2, 3, most - 1, most} {
		segs := combOf(n)
		holdLoad(t, segs, n)
		holdLoad(t, segs, n-1)
		var halves []api.Segment
		for _, s := range segs {
			halves = append(halves, seg(2*s.Lo, 2*s.Lo, s.Host), seg(2*s.Lo+1, 2*s.Lo+1, s.Host))
		}
		halves[len(halves)-1].Hi = top
		x, e := ranges.Load(halves, n)
		isErr(t, e, api.OK)
		isNumber(t, x.Len(), n)
		if x.Segment(0).Hi != 1 && n > 1 {
			t.Errorf("the first segment is %v", x.Segment(0))
		}
	}
	_, e := ranges.Load(combOf(most+1), most)
	isErr(t, e, api.ErrSegments)
}

func TestP6_2LoadOfRandomLists(t *testing.T) {
	rnd := rand.New(rand.NewSource(62))
	for range 4000 {
		var segs []api.Segment
		lo := uint64(0)
		for range rnd.Intn(6) {
			hi := lo + uint64(rnd.Intn(3))
			segs = append(segs, seg(lo, hi, api.Addr(rnd.Intn(3))))
			lo = hi + 1
		}
		segs = append(segs, seg(lo, top, api.Addr(rnd.Intn(3))))
		// Most lists are spoilt at one place.
		s := &segs[rnd.Intn(len(segs))]
		switch rnd.Intn(8) {
		case 0:
			s.Lo++
		case 1:
			s.Lo--
		case 2:
			s.Hi++
		case 3:
			s.Hi--
		case 4:
			s.Host = api.Addr(rnd.Intn(256))
		case 5:
			s.Lo, s.Hi = s.Hi, s.Lo
		}
		holdLoad(t, segs, 1+rnd.Intn(6))
	}
}

func TestP6_3Look(t *testing.T) {
	x := read(t, three, 64)
	for _, c := range []struct {
		key  uint64
		want api.Segment
	}{{0, seg(0, 99, 0)}, {50, seg(0, 99, 0)}, {99, seg(0, 99, 0)}, {100, seg(100, 199, 3)}, {199, seg(100, 199, 3)}, {200, seg(200, top, 0)}, {1 << 63, seg(200, top, 0)}, {top, seg(200, top, 0)}} {
		if got := x.Segment(c.key); got != c.want {
			t.Errorf("Segment(%d): %v; want %v", c.key, got, c.want)
		}
		if got := x.Lookup(c.key); got != c.want.Host {
			t.Errorf("Lookup(%d): %d; want %d", c.key, got, c.want.Host)
		}
	}
	isNumber(t, x.Len(), 3)
	isNumber(t, x.Limit(), 64)
	if got := x.List(); !slices.Equal(got, []api.Segment{seg(0, 99, 0), seg(100, 199, 3), seg(200, top, 0)}) {
		t.Errorf("List: %v", got)
	}
}

// Each key of a table of many segments is found, of an even and of an odd number of them.
func TestP6_3LookInManySegments(t *testing.T) {
	for _, n := range []int{2, 3, 4, 5, 7, 8, 9, most - 1, most} {
		x := comb(t, n, most)
		for i := range n {
			want := seg(uint64(i), uint64(i), api.Addr(i%2))
			if i == n-1 {
				want.Hi = top
			}
			if got := x.Segment(uint64(i)); got != want || x.Lookup(uint64(i)) != want.Host {
				t.Fatalf("%d segments: Segment(%d): %v", n, i, got)
			}
		}
		if x.Lookup(top) != api.Addr((n-1)%2) {
			t.Errorf("%d segments: the highest key is %d's", n, x.Lookup(top))
		}
	}
}

func TestP6_3Owns(t *testing.T) {
	x := read(t, three, 64)
	for _, c := range []struct {
		lo, hi uint64
		owner  api.Addr
		want   bool
	}{
		{100, 199, 3, true}, {100, 200, 3, false}, {99, 199, 3, false}, {150, 150, 3, true}, {150, 150, 0, false}, {150, 149, 3, false}, {199, 100, 3, false}, {99, 0, 0, false},
		{0, top, 0, false}, {0, 99, 0, true}, {0, 100, 0, false}, {200, top, 0, true}, {199, top, 0, false}, {top, top, 0, true}, {top, 0, 0, false}, {0, 0, 0, true},
		{150, 150, 16, false}, {150, 150, 19, false}, {0, 0, 255, false}, {5, 4, 255, false}, {0, top, 255, false},
	} {
		isOwns(t, x, c.lo, c.hi, c.owner, c.want)
	}
	for owner := range 256 {
		isOwns(t, newTable(t, 7, 1), 0, top, api.Addr(owner), owner == 7)
	}
}
