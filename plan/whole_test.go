package plan_test

import (
	"slices"
	"testing"

	"shard/api"
	"shard/plan"
	"shard/ranges"
)

// The work does not grow with the square of what is given: else these would not end in time.

// held counts the keys that each of 16 hosts has, in one walk.
func held(segs []api.Segment, keys []uint64) []int {
	loads := make([]int, 16)
	for _, s := range segs {
		for len(keys) > 0 && keys[0] <= s.Hi {
			loads[s.Host]++
			keys = keys[1:]
		}
	}
	return loads
}

// Many keys, one a move.
func TestLongPlans(t *testing.T) {
	const many = 1000000
	list := make([]uint64, many)
	for i := range list {
		list[i] = uint64(i) << 40
	}
	var found []api.Move
	var after []api.Segment
	var e, f api.Errno
	inTime(t, func() {
		found, e = plan.Moves(16, all(3), list, 1)
		after, f = plan.Play(all(3), found)
	})
	isSame(t, "errors", []api.Errno{e, f}, []api.Errno{api.OK, api.OK})
	isSame(t, "moves and segments", []int{len(found), len(after)}, []int{many / 16 * 15, many/16*15 + 1})
	isSame(t, "loads", held(after, list), slices.Repeat([]int{many / 16}, 16))
}

// Many moves of long ranges, one within the other.
func TestLongPlays(t *testing.T) {
	const many = 300000
	var list []api.Move
	for i := range uint64(many) {
		list = append(list, move(0, 1, i, top-i, 0), move(1, 0, i, top-i, 0))
	}
	for i := range uint64(many) {
		list = append(list, move(int(i%16), int((i+1)%16), i, top-i, 0))
	}
	want := make([]api.Segment, 2*many-1)
	for i := range many {
		near := uint64(i)
		want[i], want[2*many-2-i] = seg(near, near, (i+1)%16), seg(top-near, top-near, (i+1)%16)
	}
	want[many-1] = seg(many-1, top-many+1, many%16)
	var after []api.Segment
	var e api.Errno
	inTime(t, func() { after, e = plan.Play(all(0), list) })
	if e != api.OK || !slices.Equal(after, want) {
		t.Errorf("%d segments, %d", len(after), e)
	}
}

// A table full of segments, with many keys in each.
func TestManySegments(t *testing.T) {
	table := combed(api.MaxSegments, 16)
	for i := range table {
		table[i].Lo, table[i].Hi = uint64(i)*1000, uint64(i)*1000+999
	}
	table[len(table)-1].Hi = top
	var list []uint64
	for key := uint64(0); key < 1000*api.MaxSegments; key += 1 + key%7 {
		if key/1000%16 < 3 || key%11 == 0 {
			list = append(list, key)
		}
	}
	var before []int
	var found []api.Move
	var after []api.Segment
	var errs [3]api.Errno
	inTime(t, func() {
		before, errs[0] = plan.Loads(16, table, list)
		found, errs[1] = plan.Moves(16, table, list, 32)
		after, errs[2] = plan.Play(table, found)
	})
	isSame(t, "errors", errs, [3]api.Errno{})
	isSame(t, "loads before", before, held(table, list))
	isSame(t, "loads behind", held(after, list), docTargets(before))
}

// Play does what layer 6 does, as long as a table has room for it.
func TestWholeAgainstRanges(t *testing.T) {
	for seed := range 500 {
		d := diceOf(seed)
		hosts := 1 + d.Intn(16)
		table, list := d.tilted(20, hosts), d.keys(d.Intn(120))
		found, e := plan.Moves(hosts, table, list, 1+d.Intn(32))
		isSame(t, "Moves", e, api.OK)
		x, e := ranges.Load(table, api.MaxSegments)
		isSame(t, "Load", e, api.OK)
		for _, m := range found {
			if s := x.Segment(m.Lo); !x.Owns(m.Lo, m.Hi, m.From) || s.Hi != m.Hi {
				t.Fatalf("%+v in %v", m, s)
			}
			isSame(t, "Assign", x.Assign(m.Lo, m.Hi, m.To), api.OK)
		}
		isPlay(t, table, found, x.List(), api.OK)
	}
}

// A skew of 1 is what a plan leads to, if the keys can be shared out evenly.
func TestWholeSkew(t *testing.T) {
	found, _ := plan.Moves(4, all(2), upTo(400), 32)
	after, _ := plan.Play(all(2), found)
	before, _ := plan.Loads(4, all(2), upTo(400))
	behind, _ := plan.Loads(4, after, upTo(400))
	isSkew(t, before, 4, api.OK)
	isSkew(t, behind, 1, api.OK)
}
