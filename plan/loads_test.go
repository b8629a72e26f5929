package plan_test

import (
	"math/big"
	"slices"
	"testing"

	"shard/api"
)

func TestP15_1Targets(t *testing.T) {
	isTargets(t, []int{7, 0, 3}, []int{4, 3, 3}, api.OK)
	isTargets(t, []int{0, 5, 5}, []int{3, 4, 3}, api.OK)
	isTargets(t, []int{0}, []int{0}, api.OK)
	isTargets(t, []int{9}, []int{9}, api.OK)
	isTargets(t, []int{0, 0, 0}, []int{0, 0, 0}, api.OK)
	isTargets(t, []int{1, 2, 3, 4}, []int{2, 2, 3, 3}, api.OK)
	isTargets(t, []int{4, 3, 2, 1}, []int{3, 3, 2, 2}, api.OK)
	isTargets(t, []int{2, 2, 2, 1}, []int{2, 2, 2, 1}, api.OK)
	isTargets(t, []int{1, 2, 2, 2}, []int{1, 2, 2, 2}, api.OK)
	isTargets(t, []int{0, 0, 0, 2}, []int{1, 0, 0, 1}, api.OK)
	isTargets(t, make([]int, 16), make([]int, 16), api.OK)
}

func TestP15_1TargetsAtTheLimits(t *testing.T) {
	isTargets(t, []int{maxLoad, 0}, []int{maxLoad / 2, maxLoad / 2}, api.OK)
	full := slices.Repeat([]int{maxLoad}, 16)
	isTargets(t, full, full, api.OK)
	less := slices.Clone(full)
	less[3]--
	isTargets(t, less, less, api.OK)
	less[3] -= 16
	want := slices.Repeat([]int{maxLoad - 1}, 16)
	want[3]--
	isTargets(t, less, want, api.OK)
}

func refusedLoads() [][]int {
	out := [][]int{nil, {}, make([]int, 17), make([]int, 1000)}
	for _, wrong := range []int{-1, -farAway - 1, maxLoad + 1, farAway} {
		out = append(out, []int{wrong}, []int{wrong, 0, 5}, []int{0, wrong, 5}, []int{0, 5, wrong}, append(make([]int, 15), wrong))
	}
	return out
}

func TestP15_1And2LoadsThatMayNotBe(t *testing.T) {
	for _, loads := range refusedLoads() {
		isTargets(t, loads, nil, api.ErrLoads)
		isSkew(t, loads, 0, api.ErrLoads)
	}
}

func TestP15_2Skew(t *testing.T) {
	isSkew(t, []int{7, 0, 3}, 2.1, api.OK)
	isSkew(t, []int{0}, 1, api.OK)
	isSkew(t, []int{0, 0}, 1, api.OK)
	isSkew(t, make([]int, 16), 1, api.OK)
	isSkew(t, []int{5}, 1, api.OK)
	isSkew(t, []int{3, 3, 3}, 1, api.OK)
	isSkew(t, []int{1, 2}, 4.0/3, api.OK)
	isSkew(t, []int{0, 8, 0, 0}, 4, api.OK)
	isSkew(t, slices.Repeat([]int{maxLoad}, 16), 1, api.OK)
	isSkew(t, append(make([]int, 15), maxLoad), 16, api.OK)
}

// docSkew is the float nearest to the fraction: both numbers are held exactly, so one division gives just that.
func docSkew(loads []int) float64 {
	greatest, total := int64(0), int64(0)
	for _, load := range loads {
		greatest, total = max(greatest, int64(load)), total+int64(load)
	}
	if total == 0 {
		return 1
	}
	skew, _ := big.NewRat(greatest*int64(len(loads)), total).Float64()
	return skew
}

func TestP15_1And2RandomLoads(t *testing.T) {
	for seed := range 3000 {
		d := diceOf(seed)
		loads := make([]int, d.Intn(18))
		bound := []int{2, 5, 100, maxLoad + 1}[d.Intn(4)]
		for i := range loads {
			loads[i] = d.Intn(bound)
			if d.Intn(200) == 0 {
				loads[i] = edges()[d.Intn(len(edges()))]
			}
		}
		if !docLoadsMayBe(loads) {
			isTargets(t, loads, nil, api.ErrLoads)
			isSkew(t, loads, 0, api.ErrLoads)
			continue
		}
		isTargets(t, loads, docTargets(loads), api.OK)
		isSkew(t, loads, docSkew(loads), api.OK)
	}
}

func TestP15_3Loads(t *testing.T) {
	two := segs(seg(0, 9, 0), seg(10, top, 1))
	isLoads(t, 2, two, keys(3, 9, 10), []int{2, 1}, api.OK)
	isLoads(t, 2, two, nil, []int{0, 0}, api.OK)
	isLoads(t, 2, two, keys(0, top), []int{1, 1}, api.OK)
	isLoads(t, 5, two, keys(0, 1, 2), []int{3, 0, 0, 0, 0}, api.OK)
	isLoads(t, 1, all(0), keys(0, 7, top), []int{3}, api.OK)
	isLoads(t, 16, all(15), keys(5), append(make([]int, 15), 1), api.OK)
	isLoads(t, 3, segs(seg(0, 9, 2), seg(10, 19, 0), seg(20, 29, 2), seg(30, top, 2)), keys(9, 10, 19, 20, 29, 30, top), []int{2, 0, 5}, api.OK)
}

func TestP15_3LoadsThatMayNotBe(t *testing.T) {
	two := segs(seg(0, 9, 0), seg(10, top, 1))
	for _, hosts := range []int{-farAway - 1, -1, 0, 17, farAway} {
		isLoads(t, hosts, two, nil, nil, api.ErrArg)
		isLoads(t, hosts, nil, keys(3, 3), nil, api.ErrArg)
	}
	isLoads(t, 1, two, keys(3), nil, api.ErrLayout)
	isLoads(t, 15, all(15), nil, nil, api.ErrLayout)
	isLoads(t, 16, all(16), nil, nil, api.ErrLayout)
	for _, wrong := range wrongTables() {
		isLoads(t, 16, wrong, keys(3), nil, api.ErrLayout)
		isMoves(t, 16, wrong, keys(3), 32, nil, api.ErrLayout)
	}
	for _, wrong := range wrongKeys() {
		isLoads(t, 2, two, wrong, nil, api.ErrLayout)
		isMoves(t, 2, two, wrong, 32, nil, api.ErrLayout)
	}
}

// wrongTables are segments that are no table's.
func wrongTables() [][]api.Segment {
	return [][]api.Segment{
		nil,
		{},
		{seg(0, 9, 0)},
		{seg(0, top-1, 0)},
		{seg(1, top, 0)},
		{seg(0, 9, 0), seg(11, top, 1)},
		{seg(0, 9, 0), seg(9, top, 1)},
		{seg(10, top, 1), seg(0, 9, 0)},
		{seg(0, top, 0), seg(0, top, 0)},
		{seg(0, top, 0), seg(5, 6, 0)},
		{seg(0, 9, 0), seg(10, 5, 1), seg(6, top, 0)},
		{seg(0, 9, 16), seg(10, top, 0)},
		{seg(0, 9, 0), seg(10, top, 255)},
		combed(api.MaxSegments+1, 2),
	}
}

func wrongKeys() [][]uint64 {
	return [][]uint64{{3, 3}, {3, 2}, {0, 0}, {top, top}, {top, 0}, {1, 2, 3, 3}, {1, 5, 4, 6}, {2, 1, 3}}
}

// The limit is one of segments of which no two neighbours have one owner.
func TestP15_3LoadsAtTheLimitOfSegments(t *testing.T) {
	isLoads(t, 2, combed(api.MaxSegments, 2), keys(0, 1, 2, 3, api.MaxSegments-2, top), []int{3, 3}, api.OK)
	long := combed(3*api.MaxSegments, 3)
	for i := range long {
		long[i].Host = api.Addr(i / 3 % 2)
	}
	isLoads(t, 2, long, keys(0, 2, 3, 5, 6), []int{3, 2}, api.OK)
	isMoves(t, 2, long, keys(0, 2, 6), 32, moves(move(0, 1, 6, 8, 1)), api.OK)
	isPlay(t, long, nil, docJoin(long), api.OK)
}

func TestP15_3RandomLayouts(t *testing.T) {
	for seed := range 3000 {
		d := diceOf(seed)
		hosts := 1 + d.Intn(16)
		table, list := d.table(12, hosts), d.keys(d.Intn(60))
		if d.Intn(3) == 0 {
			table = d.spoilTable(table)
		}
		if d.Intn(6) == 0 && len(list) > 0 {
			list[d.Intn(len(list))] = d.key()
		}
		if !docIsLayout(hosts, table, list) {
			isLoads(t, hosts, table, list, nil, api.ErrLayout)
			isMoves(t, hosts, table, list, 1+d.Intn(32), nil, api.ErrLayout)
			continue
		}
		isLoads(t, hosts, table, list, docLoads(hosts, table, list), api.OK)
	}
}
