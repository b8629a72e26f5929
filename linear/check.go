package linear

import (
	"maps"
	"slices"
	"sync"

	"shard/api"
)

// Check judges all calls, key by key, with so many workers.
func Check(calls []api.Call, workers int) (api.Verdict, api.Errno) {
	switch {
	case workers < 1 || workers > api.MaxWorkers:
		return api.Verdict{}, api.ErrWorkers
	case len(calls) > api.MaxCalls:
		return api.Verdict{}, api.ErrMany
	case !allMayBe(calls):
		return api.Verdict{}, api.ErrCalls
	}
	groups := groupsOf(calls)
	if slices.ContainsFunc(groups, func(g group) bool { return len(g.calls) > api.MaxKeyCalls }) {
		return api.Verdict{}, api.ErrMany
	}
	return together(calls, groups, judgeAll(groups, workers))
}

// group is the calls of a key, with their numbers among all calls.
type group struct {
	calls   []api.Call
	numbers []int
}

// groupsOf gives the groups of the calls by rising keys.
func groupsOf(calls []api.Call) []group {
	byKey := map[uint64]group{}
	for n, c := range calls {
		if isScan(c) {
			continue
		}
		g := byKey[c.Req.Key]
		byKey[c.Req.Key] = group{calls: append(g.calls, c), numbers: append(g.numbers, n)}
	}
	var groups []group
	for _, key := range slices.Sorted(maps.Keys(byKey)) {
		groups = append(groups, byKey[key])
	}
	return groups
}

// judgeAll gives the verdict of each group. The workers share nothing but the channel: each place of the verdicts is one worker's alone, and is read only when all are done.
func judgeAll(groups []group, workers int) []api.Verdict {
	verdicts := make([]api.Verdict, len(groups))
	places := make(chan int, len(groups))
	for place := range groups {
		places <- place
	}
	close(places)
	var working sync.WaitGroup
	for range min(workers, len(groups)) {
		working.Add(1)
		go func() {
			defer working.Done()
			for place := range places {
				verdicts[place] = judge(groups[place].calls)
			}
		}()
	}
	working.Wait()
	return verdicts
}

// together makes of the groups' verdicts that of all calls.
func together(calls []api.Call, groups []group, verdicts []api.Verdict) (api.Verdict, api.Errno) {
	var orders [][]int
	for i, v := range verdicts {
		if !v.Ok {
			return v, api.OK
		}
		orders = append(orders, groups[i].order(v))
	}
	// Orders that obey can always be merged (P14.6).
	order, e := Merge(calls, orders)
	return api.Verdict{Ok: e == api.OK, Order: order}, e
}

// order gives a verdict's order by the numbers that the calls have among all.
func (g group) order(v api.Verdict) []int {
	var order []int
	for _, n := range v.Order {
		order = append(order, g.numbers[n])
	}
	return order
}
