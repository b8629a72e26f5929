package history

import (
	"math"
	"slices"
	"sort"

	"shard/api"
)

// isKnown tells whether a call's outcome is known.
func isKnown(c api.Call) bool { return c.End >= 0 }

// Keys tells the keys of calls, rising.
func Keys(calls []api.Call) []uint64 {
	var keys []uint64
	for _, c := range calls {
		if c.Req.Kind != api.KScan {
			keys = append(keys, c.Req.Key)
		}
	}
	slices.Sort(keys)
	return slices.Compact(keys)
}

// Only gives the numbers of a key's calls.
func Only(calls []api.Call, key uint64) []int {
	var numbers []int
	for i, c := range calls {
		if c.Req.Kind != api.KScan && c.Req.Key == key {
			numbers = append(numbers, i)
		}
	}
	return numbers
}

// Before tells whether a call ended before another began.
func Before(a api.Call, b api.Call) bool { return isKnown(a) && a.End < b.Begin }

// Order tells the pairs of calls that come one behind the other with none between.
func Order(calls []api.Call) ([][2]int, api.Errno) {
	if _, e := Check(calls); e != api.OK {
		return nil, e
	}
	var pairs [][2]int
	ends := leastEnds(calls)
	for i, c := range calls {
		// Calls that may be stand by rising begins: so those behind c are all from some number on.
		first := sort.Search(len(calls), func(j int) bool { return Before(c, calls[j]) })
		// One that begins behind the first end of all these has another between.
		for j := first; j < len(calls) && calls[j].Begin < ends[first]; j++ {
			pairs = append(pairs, [2]int{i, j})
		}
	}
	return pairs, api.OK
}

// leastEnds tells for each number the least known End of the calls from that number on, their count included.
func leastEnds(calls []api.Call) []int {
	least := make([]int, len(calls)+1)
	least[len(calls)] = math.MaxInt
	for i, c := range slices.Backward(calls) {
		least[i] = least[i+1]
		if isKnown(c) {
			least[i] = min(least[i], c.End)
		}
	}
	return least
}

// Open tells how many calls were open at once.
func Open(calls []api.Call) int {
	begins, ends := spans(calls)
	most, ended := 0, 0
	// There are most at some begin: at each of them, all begins up to it less all ends ahead of it.
	for i, place := range begins {
		for ended < len(ends) && ends[ended] < place {
			ended++
		}
		most = max(most, i+1-ended)
	}
	return most
}

// spans gives the places at which calls begin and at which they end, both rising, without the calls that are open nowhere.
func spans(calls []api.Call) ([]int, []int) {
	var begins, ends []int
	for _, c := range calls {
		if isKnown(c) && c.End < c.Begin {
			continue
		}
		begins = append(begins, c.Begin)
		if isKnown(c) {
			ends = append(ends, c.End)
		}
	}
	slices.Sort(begins)
	slices.Sort(ends)
	return begins, ends
}

// Cuts tells the numbers of the calls ahead of which all calls have ended, before any from there on begins.
func Cuts(calls []api.Call) []int {
	var cuts []int
	begins := leastBegins(calls)
	latest := 0 // the greatest End of the calls ahead
	for i := 1; i < len(calls) && isKnown(calls[i-1]); i++ {
		latest = max(latest, calls[i-1].End)
		if latest < begins[i] {
			cuts = append(cuts, i)
		}
	}
	return cuts
}

// leastBegins tells for each number the least Begin of the calls from that number on.
func leastBegins(calls []api.Call) []int {
	least := make([]int, len(calls))
	for i, c := range slices.Backward(calls) {
		least[i] = c.Begin
		if i+1 < len(calls) {
			least[i] = min(c.Begin, least[i+1])
		}
	}
	return least
}
