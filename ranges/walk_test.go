package ranges_test

import (
	"iter"
	"slices"
	"testing"

	"shard/api"
	"shard/ranges"
)

func TestP6_7WithinExamples(t *testing.T) {
	x := read(t, three, 8)
	isWalk(t, x.Within(50, 150), seg(50, 99, 0), seg(100, 150, 3))
	isWalk(t, x.Within(top, top), seg(top, top, 0))
	isWalk(t, x.Within(0, 0), seg(0, 0, 0))
	isWalk(t, x.Within(0, top), seg(0, 99, 0), seg(100, 199, 3), seg(200, top, 0))
	isWalk(t, x.Within(99, 100), seg(99, 99, 0), seg(100, 100, 3))
	isWalk(t, x.Within(100, 199), seg(100, 199, 3))
	isWalk(t, x.Within(120, 130), seg(120, 130, 3))
	isWalk(t, x.Within(199, 200), seg(199, 199, 3), seg(200, 200, 0))
	for _, turned := range [][2]uint64{{9, 8}, {150, 149}, {150, 50}, {200, 199}, {top, 0}, {top, top - 1}, {1, 0}} {
		isWalk(t, x.Within(turned[0], turned[1]))
	}
}

func TestP6_7WithinOfAllRanges(t *testing.T) {
	want := &docTable{[]api.Addr{0, 0, 1, 1, 1, 2, 2, 0, 0, 0, 2, 1, 1}, 20}
	x := read(t, want.text(), 20)
	for _, lo := range edges {
		for _, hi := range edges {
			for _, low := range []uint64{lo - 1, lo, lo + 1} {
				for _, high := range []uint64{hi - 1, hi, hi + 1} {
					isWalk(t, x.Within(low, high), want.within(low, high)...)
				}
			}
		}
	}
}

// walks are the ways to go through the whole of a table.
func walks(x *ranges.Table) []iter.Seq[api.Segment] {
	return []iter.Seq[api.Segment]{x.All(), x.Within(0, top)}
}

// The document's eleventh example, for both calls.
func TestP6_7WalkIsOfTheTimeOfTheCall(t *testing.T) {
	x := read(t, three, 8)
	before := x.List()
	old := walks(x)
	isAssign(t, x, 0, top, 5, api.OK)
	for _, walk := range old {
		isWalk(t, walk, before...)
	}
	for _, walk := range walks(x) {
		isWalk(t, walk, seg(0, top, 5))
	}
	isAssign(t, x, 7, 9, 6, api.OK)
	for _, walk := range old {
		isWalk(t, walk, before...)
	}
}

// Each kind of change in the middle of a loop: to what was given, to what is to come, with more segments, fewer, as many.
func TestP6_7AssignInTheMiddleOfALoop(t *testing.T) {
	for _, change := range []api.Segment{seg(0, top, 5), seg(0, 0, 5), seg(0, 99, 3), seg(120, 130, 0), seg(100, 199, 0), seg(150, 250, 3), seg(200, top, 1), seg(top, top, 1), seg(100, 199, 3)} {
		for number := range 2 {
			for stop := range 3 {
				x := read(t, three, 8)
				want := x.List()
				walk := walks(x)[number]
				var got []api.Segment
				for s := range walk {
					if len(got) == stop {
						isAssign(t, x, change.Lo, change.Hi, change.Host, api.OK)
						isOwns(t, x, change.Lo, change.Hi, change.Host, true)
					}
					got = append(got, s)
				}
				if !slices.Equal(got, want) {
					t.Errorf("with %v after %d: %v", change, stop, got)
				}
				isWalk(t, walk, want...)
			}
		}
	}
}

func TestP6_7WalkSeveralTimes(t *testing.T) {
	x := read(t, three, 8)
	want := x.List()
	for _, walk := range walks(x) {
		for stop := range 3 {
			var got []api.Segment
			for s := range walk {
				got = append(got, s)
				if len(got) > stop {
					break
				}
			}
			if !slices.Equal(got, want[:stop+1]) {
				t.Errorf("up to %d: %v", stop, got)
			}
			isWalk(t, walk, want...)
		}
		for range walk {
			isWalk(t, walk, want...)
		}
	}
	isText(t, x, three)
}

// Who says that it is enough is asked no more.
func TestP6_7WalkThatStops(t *testing.T) {
	x := read(t, three, 8)
	for _, walk := range append(walks(x), x.Within(50, 150)) {
		for enough := range 2 {
			asked := 0
			walk(func(api.Segment) bool {
				asked++
				return asked <= enough
			})
			isNumber(t, asked, enough+1)
		}
	}
	next, stop := iter.Pull(x.All())
	if s, ok := next(); !ok || s != seg(0, 99, 0) {
		t.Errorf("the first segment is %v, %v", s, ok)
	}
	stop()
	isAssign(t, x, 0, 9, 1, api.OK)
}
