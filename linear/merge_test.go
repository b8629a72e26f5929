package linear_test

import (
	"slices"
	"testing"

	"shard/api"
	"shard/history"
	"shard/linear"
)

func TestP14_4Examples(t *testing.T) {
	calls := list(done(set("a"), 0, 5), got("a", 1, 2), at(3, done(set("x"), 3, 4)))
	isMerged(t, calls, [][]int{{2}, {0, 1}}, 0, 1, 2)
	isMerged(t, calls, [][]int{{0, 1}, {2}}, 0, 1, 2)
	isMerged(t, calls, [][]int{nil, {0, 1}, {}, {2}, nil}, 0, 1, 2)
	isMerged(t, nil, nil)
	isMerged(t, nil, [][]int{})
	isMerged(t, nil, [][]int{nil, {}})
	isMerged(t, list(open(set("a"), 0), done(scan(), 0, 1)), nil)
	isMerged(t, list(open(set("a"), 0), done(scan(), 0, 1)), [][]int{{}})
	isMerged(t, list(open(set("a"), 0), done(scan(), 0, 1)), [][]int{{0}}, 0)
	isNotMerged(t, list(done(set("a"), 0, 1)), nil, api.ErrMerge)
	isNotMerged(t, list(done(set("a"), 0, 1)), [][]int{nil}, api.ErrMerge)
}

// Whether the calls can take effect so is not asked.
func TestP14_4AnswersAreNotAsked(t *testing.T) {
	isMerged(t, list(done(set("a"), 0, 5), got("b", 1, 2)), [][]int{{1, 0}}, 1, 0)
	isMerged(t, list(missed(0, 9), got("b", 1, 2), at(3, done(del(), 0, 2))), [][]int{{1, 0}, {2}}, 1, 0, 2)
}

// The least of those that may come next: a first one left, which none that is left is before.
func TestP14_4LeastFirst(t *testing.T) {
	at := func(key uint64, begin, end int) api.Call { return at(key, done(set("a"), begin, end)) }
	isMerged(t, list(at(1, 0, 9), at(2, 0, 9), at(3, 0, 9)), [][]int{{2}, {1}, {0}}, 0, 1, 2)
	isMerged(t, list(at(1, 0, 9), at(2, 0, 9), at(1, 0, 9)), [][]int{{2, 0}, {1}}, 1, 2, 0)
	isMerged(t, list(at(1, 2, 9), at(2, 0, 1), at(3, 0, 9)), [][]int{{0}, {1}, {2}}, 1, 0, 2)
	isMerged(t, list(at(1, 1, 9), at(2, 0, 1), at(3, 0, 9)), [][]int{{0}, {1}, {2}}, 0, 1, 2)
	// One deep in another order binds too.
	isMerged(t, list(at(1, 5, 9), at(2, 0, 9), at(2, 0, 4)), [][]int{{0}, {1, 2}}, 1, 2, 0)
	// And one that was free stays free.
	isMerged(t, list(at(1, 0, 9), at(2, 8, 20), at(2, 0, 30), at(3, 0, 7)), [][]int{{2, 1}, {0}, {3}}, 0, 2, 3, 1)
	isMerged(t, list(open(set("a"), 5), at(2, 0, 4)), [][]int{{0}, {1}}, 1, 0)
	isMerged(t, list(open(set("a"), 0), at(2, 5, 6)), [][]int{{0}, {1}}, 0, 1)
	isMerged(t, list(at(1, farPlace-1, farPlace), at(2, 0, farPlace-2), open(set("x"), farPlace)), [][]int{{2}, {1}, {0}}, 1, 0, 2)
}

func TestP14_4Refusals(t *testing.T) {
	calls := list(done(set("a"), 0, 5), got("a", 1, 2), at(3, done(set("x"), 3, 4)), done(scan(), 0, 9), at(4, open(set("y"), 0)))
	isMerged(t, calls, [][]int{{0, 1}, {2}, {4}}, 0, 1, 2, 4)
	isMerged(t, calls, [][]int{{0, 1}, {2}}, 0, 1, 2)
	for _, orders := range [][][]int{
		nil, {{0, 1}}, {{0}, {2}}, {{2}}, // a known one is wanting
		{{0, 1}, {2}, {5}}, {{0, 1}, {2}, {-1}}, {{0, 1}, {2, farPlace}}, {{0, 1, -farPlace - 1}, {2}}, // no call's
		{{0, 1}, {2}, {3}}, {{0, 1, 3}, {2}}, {{3}}, // a Scan's
		{{0, 1, 1}, {2}}, {{0, 0, 1}, {2}}, {{0, 1}, {2, 2}}, {{0, 1}, {2}, {2}}, {{0, 1}, {2}, {0}}, {{0, 1}, {2}, {4, 4}}, // twice
		{{0, 1, 2}}, {{0, 1}, {2, 4}}, {{0, 1, 4}, {2}}, {{4, 2}, {0, 1}}, // two keys in one order
		{{0}, {1}, {2}}, {{1}, {2}, {0}}, // one key in two
	} {
		isNotMerged(t, calls, orders, api.ErrMerge)
	}
	isNotMerged(t, list(done(set("a"), 0, 1), done(set("b"), 2, 3)), [][]int{{1, 0}}, api.ErrMerge)
	isMerged(t, list(done(set("a"), 0, 1), done(set("b"), 2, 3)), [][]int{{0, 1}}, 0, 1)
	isMerged(t, list(done(set("a"), 0, 2), done(set("b"), 2, 3)), [][]int{{1, 0}}, 1, 0)
	// Against time by way of another key: 1 ahead of 0, 0 before 3, 3 ahead of 2, 2 before 1.
	round := list(done(set("a"), 0, 1), done(set("a"), 4, 9), at(8, done(set("a"), 0, 3)), at(8, done(set("a"), 2, 9)))
	isNotMerged(t, round, [][]int{{1, 0}, {3, 2}}, api.ErrMerge)
	isMerged(t, round, [][]int{{0, 1}, {3, 2}}, 0, 3, 2, 1)
	// The part that can be merged is not told.
	isNotMerged(t, append(round, at(1, done(set("a"), 0, 1))), [][]int{{4}, {1, 0}, {3, 2}}, api.ErrMerge)
}

// A call that may not be comes first, whatever the orders are.
func TestP14_4CallsThatMayNotBe(t *testing.T) {
	for _, bad := range badCalls() {
		for _, orders := range [][][]int{nil, {{0}}, {{0, 0}}, {{-1}}, {{1}}} {
			isNotMerged(t, list(bad), orders, api.ErrCalls)
			isNotMerged(t, list(done(set("a"), 0, 1), bad), orders, api.ErrCalls)
		}
	}
}

// isLikeMerge holds a merge against the document's, and its list against what is asked of it.
func isLikeMerge(t *testing.T, calls []api.Call, orders [][]int) api.Errno {
	t.Helper()
	list, e := linear.Merge(calls, orders)
	want, err := docMerge(calls, orders)
	isSame(t, "Merge "+shown(calls)+shown(orders), []any{list, e}, []any{want, err})
	return e
}

// mergeable tells whether there is a list, by trying all.
func mergeable(calls []api.Call, orders [][]int) bool {
	all := slices.Concat(orders...)
	found := false
	lists(len(calls), func(list []int) {
		if found || len(list) != len(all) || !docInTime(calls, list) {
			return
		}
		found = true
		for _, order := range orders {
			kept := slices.DeleteFunc(slices.Clone(list), func(n int) bool { return !slices.Contains(order, n) })
			found = found && slices.Equal(kept, order)
		}
	})
	return found
}

// shuffled gives an order of the calls for each key, in any order of these.
func (d dice) shuffled(calls []api.Call) [][]int {
	var orders [][]int
	for _, key := range history.Keys(calls) {
		_, numbers := docOnly(calls, key)
		d.Shuffle(len(numbers), func(i, j int) { numbers[i], numbers[j] = numbers[j], numbers[i] })
		numbers = slices.DeleteFunc(numbers, func(n int) bool { return calls[n].End == -1 && d.Intn(3) == 0 })
		orders = append(orders, numbers)
	}
	if d.Intn(2) == 0 {
		orders = append(orders, nil)
	}
	d.Shuffle(len(orders), func(i, j int) { orders[i], orders[j] = orders[j], orders[i] })
	return orders
}

// Random orders of random calls: there is a list just when one of all lists is one.
func TestP14_4RandomOrders(t *testing.T) {
	counts := map[api.Errno]int{}
	for seed := range 4000 {
		d := diceOf(seed)
		var calls []api.Call
		for range 1 + d.Intn(5) {
			calls = append(calls, at(d.Uint64()%3, d.any(8)))
		}
		orders := d.shuffled(calls)
		e := isLikeMerge(t, calls, orders)
		isSame(t, "mergeable "+shown(calls)+shown(orders), e == api.OK, mergeable(calls, orders))
		counts[e]++
		if order := orders[d.Intn(len(orders))]; len(order) > 0 {
			order[d.Intn(len(order))] = d.Intn(len(calls)+2) - 1
			isLikeMerge(t, calls, orders)
		}
		d.spoil(&calls[d.Intn(len(calls))])
		counts[isLikeMerge(t, calls, orders)]++
		if t.Failed() {
			return
		}
	}
	if counts[api.OK] < 500 || counts[api.ErrMerge] < 500 || counts[api.ErrCalls] < 200 {
		t.Errorf("%v", counts)
	}
}

// There is no limit to the calls.
func TestP14_4RandomLongOnes(t *testing.T) {
	for seed := range 200 {
		d := diceOf(seed)
		calls, order := d.run(1+d.Intn(400), 1+d.Uint64()%40)
		orders := ordersOf(calls, order)
		if isLikeMerge(t, calls, orders) != api.OK {
			t.Errorf("%+v, %v", calls, orders)
		}
		if o := orders[d.Intn(max(1, len(orders)))]; len(o) > 1 {
			o[0], o[len(o)-1] = o[len(o)-1], o[0]
			isLikeMerge(t, calls, orders)
		}
	}
}

// ordersOf takes an order apart by keys.
func ordersOf(calls []api.Call, order []int) [][]int {
	orders := [][]int{nil}
	for _, key := range history.Keys(calls) {
		orders = append(orders, slices.DeleteFunc(slices.Clone(order), func(n int) bool { return calls[n].Req.Key != key }))
	}
	return orders
}

func TestP14_4LongLists(t *testing.T) {
	inTime(t, func() {
		const n = 1 << 17
		calls, orders, want := make([]api.Call, n), make([][]int, n), make([]int, n)
		for i := range calls {
			calls[i] = at(uint64(i), done(set("v"), n-i, n-i+1))
			orders[i], want[i] = []int{i}, n-1-i
		}
		merged, e := linear.Merge(calls, orders)
		// A call's end is the begin of the one that is next in time: those two may change places, and the lesser one comes first.
		if e != api.OK || len(merged) != n || merged[0] != n-2 || merged[1] != n-1 {
			t.Errorf("%d: %v", e, merged[:min(9, len(merged))])
		}
		for i := range calls {
			calls[i].Begin, calls[i].End = 2*(n-i), 2*(n-i)+1
		}
		merged, e = linear.Merge(calls, orders)
		if e != api.OK || !slices.Equal(merged, want) {
			t.Errorf("%d: %v", e, merged[:min(9, len(merged))])
		}
		for i := range calls {
			calls[i].Req.Key = 0
		}
		slices.Reverse(want)
		if merged, e = linear.Merge(calls, [][]int{want}); e != api.ErrMerge || len(merged) != 0 {
			t.Errorf("%d: %d numbers", e, len(merged))
		}
	})
}
