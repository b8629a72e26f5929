package linear_test

import (
	"math"
	"runtime"
	"slices"
	"sync"
	"testing"
	"time"

	"shard/api"
	"shard/history"
	"shard/linear"
)

func TestP14_5Keys(t *testing.T) {
	good := func(key uint64) []api.Call { return list(at(key, done(set("a"), 0, 1)), at(key, got("a", 2, 3))) }
	bad := func(key uint64) []api.Call { return list(at(key, done(set("a"), 0, 1)), at(key, got("b", 2, 3))) }
	isChecked(t, slices.Concat(good(9), good(4)), api.Verdict{Ok: true, Order: []int{0, 2, 1, 3}}, api.OK)
	isChecked(t, slices.Concat(bad(9), bad(4)), api.Verdict{Key: 4}, api.OK)
	isChecked(t, slices.Concat(bad(4), bad(9)), api.Verdict{Key: 4}, api.OK)
	isChecked(t, slices.Concat(good(4), bad(9), good(1)), api.Verdict{Key: 9}, api.OK)
	isChecked(t, slices.Concat(bad(1<<64-1), good(0), bad(1<<63)), api.Verdict{Key: 1 << 63}, api.OK)
	isChecked(t, slices.Concat(good(4), bad(0)), api.Verdict{Key: 0}, api.OK)
	isChecked(t, list(done(set("a"), 0, 5), got("a", 1, 2), at(3, done(set("x"), 3, 4))), api.Verdict{Ok: true, Order: []int{0, 1, 2}}, api.OK)
	isChecked(t, nil, api.Verdict{Ok: true}, api.OK)
}

// A Scan stands in no order, binds nobody, and its key counts for nothing.
func TestP14_5ScansArePassedOver(t *testing.T) {
	a, b := done(set("a"), 4, 5), got("a", 8, 9)
	isChecked(t, list(done(scan(), 0, 1)), api.Verdict{Ok: true}, api.OK)
	isChecked(t, list(at(3, done(scan(), 0, 1)), b, open(scan(), 2), a, done(scan(), 6, 7)), api.Verdict{Ok: true, Order: []int{3, 1}}, api.OK)
	isChecked(t, list(at(3, done(scan(), 0, 1)), b), api.Verdict{Key: theKey}, api.OK)
	isChecked(t, append(slices.Repeat(list(done(scan(), 0, 1)), 20), slices.Repeat(list(a), 16)...), api.Verdict{Ok: true, Order: upTo(20, 36)}, api.OK)
	isChecked(t, slices.Repeat(list(done(scan(), 0, 1)), 256), api.Verdict{Ok: true}, api.OK)
	isChecked(t, slices.Repeat(list(done(scan(), 0, 1)), 257), api.Verdict{}, api.ErrMany)
}

func upTo(first, behind int) []int {
	var numbers []int
	for n := first; n < behind; n++ {
		numbers = append(numbers, n)
	}
	return numbers
}

func TestP14_5Workers(t *testing.T) {
	fine := list(done(set("a"), 0, 1))
	for workers := -3; workers < 70; workers++ {
		v, e := linear.Check(fine, workers)
		if workers < 1 || workers > 64 {
			isSame(t, "Check", []any{v, e}, []any{api.Verdict{}, api.ErrWorkers})
		} else {
			isSame(t, "Check", []any{v, e}, []any{api.Verdict{Ok: true, Order: []int{0}}, api.OK})
		}
	}
	for _, workers := range []int{math.MinInt, math.MaxInt, 1 << 32, 1<<32 + 1, 1 << 40} {
		if v, e := linear.Check(fine, workers); e != api.ErrWorkers || v.Ok {
			t.Errorf("%d: %+v, %d", workers, v, e)
		}
	}
}

// Of several faults the first in the list is told: workers, 257 calls, calls that may not be, 17 of a key.
func TestP14_5OrderOfFaults(t *testing.T) {
	fine, bad := done(set("a"), 0, 1), done(set("a"), 1, 1)
	many := slices.Repeat(list(bad), 257)
	for _, c := range []struct {
		calls   []api.Call
		workers int
		want    api.Errno
	}{
		{many, 0, api.ErrWorkers}, {list(bad), 65, api.ErrWorkers}, {nil, 0, api.ErrWorkers},
		{many, 1, api.ErrMany}, {slices.Repeat(list(fine), 257), 64, api.ErrMany},
		{many[:256], 1, api.ErrCalls}, {append(slices.Repeat(list(fine), 17), bad), 1, api.ErrCalls}, {append(list(bad), slices.Repeat(list(fine), 17)...), 1, api.ErrCalls},
		{slices.Repeat(list(fine), 17), 1, api.ErrMany}, {slices.Repeat(list(fine), 256), 1, api.ErrMany}, {append(slices.Repeat(list(at(9, fine)), 17), fine, missed(2, 3)), 1, api.ErrMany},
	} {
		v, e := linear.Check(c.calls, c.workers)
		isSame(t, "Check", []any{v, e}, []any{api.Verdict{}, c.want})
	}
	for _, bad := range badCalls() {
		isChecked(t, list(bad), api.Verdict{}, api.ErrCalls)
		isChecked(t, list(fine, bad), api.Verdict{}, api.ErrCalls)
		isChecked(t, list(at(1, bad), fine, missed(2, 3)), api.Verdict{}, api.ErrCalls)
	}
}

// At the limits all is as usual.
func TestP14_5Limits(t *testing.T) {
	inTime(t, func() {
		var calls, hard []api.Call
		for i := range 256 {
			calls = append(calls, at(uint64(i), done(set("a"), i, i+1)))
			hard = append(hard, at(uint64(i%16), done(set(string(rune('A'+i/16))), 0, 99)))
		}
		isChecked(t, calls, api.Verdict{Ok: true, Order: upTo(0, 256)}, api.OK)
		isChecked(t, append(calls, calls[0]), api.Verdict{}, api.ErrMany)
		isChecked(t, hard, api.Verdict{Ok: true, Order: upTo(0, 256)}, api.OK)
		for key := range uint64(16) {
			hard[240+key] = at(key, got("x", 0, 99))
		}
		isChecked(t, hard, api.Verdict{Key: 0}, api.OK)
		for key := range uint64(15) {
			hard[240+key] = at(key, got("A", 100, 101))
		}
		isChecked(t, hard, api.Verdict{Key: 15}, api.OK)
		hard[255] = hard[254]
		isChecked(t, hard, api.Verdict{}, api.ErrMany)
	})
}

// What is answered is the same for every number of workers, however they run.
func TestP14_5RandomCalls(t *testing.T) {
	counts := map[bool]int{}
	for seed := range 1000 {
		d := diceOf(seed)
		var calls []api.Call
		for range 1 + d.Intn(8) {
			calls = append(calls, at(d.Uint64()%3, d.any(8)))
			if d.Intn(6) == 0 {
				calls = append(calls, at(d.Uint64()%4, known(scan(), api.StOK, "", d.Intn(9), 10)))
			}
		}
		if len(calls) < 7 {
			counts[isLikeChecked(t, calls).Ok]++
		}
		calls, _ = d.run(1+d.Intn(7), 1+d.Uint64()%3)
		isSame(t, "a run", isLikeChecked(t, calls).Ok, true)
		d.spoil(&calls[d.Intn(len(calls))])
		isLikeChecked(t, calls)
		if t.Failed() {
			return
		}
	}
	if counts[true] < 200 || counts[false] < 200 {
		t.Errorf("%v", counts)
	}
}

func TestP14_5EveryNumberOfWorkers(t *testing.T) {
	for seed := range 40 {
		calls := diceOf(seed).fewOfEachKey(256)
		isSame(t, "a run", byAll(t, calls).Ok, true)
		// A key that is not, behind all that are, then one ahead of them.
		for _, key := range []uint64{3000, 1} {
			calls[0], calls[1] = at(key, done(set("a"), 0, 1)), at(key, missed(2, 3))
			isSame(t, "a key that is not", byAll(t, calls), api.Verdict{Key: key})
		}
	}
}

// byAll gives the verdict, and asks that every number of workers comes to it.
func byAll(t *testing.T, calls []api.Call) api.Verdict {
	t.Helper()
	want, e := linear.Check(calls, 1)
	for workers := range 65 {
		v, f := linear.Check(calls, max(1, workers))
		if e != api.OK || f != e || v.Ok != want.Ok || v.Key != want.Key || !slices.Equal(v.Order, want.Order) {
			t.Errorf("Check(%+v, %d): %+v, %d; want %+v, %d", calls, workers, v, f, want, e)
		}
	}
	return want
}

// fewOfEachKey gives a run in which no key has too many calls. The first two calls of the list are alone with their keys.
func (d dice) fewOfEachKey(n int) []api.Call {
	calls := list(at(2000, done(set("a"), 0, 1)), at(2001, done(set("a"), 0, 1)))
	for len(calls) < n {
		part, _ := d.run(min(1+d.Intn(14), n-len(calls)), 1)
		for _, c := range part {
			calls = append(calls, at(uint64(10+len(calls)-len(calls)%16), c))
		}
		for len(calls)%16 != 0 && len(calls) < n {
			calls = append(calls, done(scan(), 0, 1))
		}
	}
	return calls
}

// Calls of many clients at a time go on beside each other.
func TestP14_5SeveralAtOnce(t *testing.T) {
	calls := diceOf(1).fewOfEachKey(256)
	want, _ := linear.Check(calls, 1)
	var all sync.WaitGroup
	for workers := 1; workers <= 16; workers++ {
		all.Add(1)
		go func() {
			defer all.Done()
			v, e := linear.Check(calls, workers)
			isSame(t, "Check", []any{v, e}, []any{want, api.OK})
		}()
	}
	all.Wait()
}

// No goroutine is left behind, whatever is answered. One that has said that it is done may take a moment to go.
func TestP14_5AllWorkersEnd(t *testing.T) {
	first := runtime.NumGoroutine()
	for seed := range 100 {
		calls := diceOf(seed).fewOfEachKey(128)
		linear.Check(calls, 64)
		linear.Check(calls[:2], 64)
		linear.Check(append(calls, missed(0, 0)), 64)
		linear.Check(append(calls, got("a", 0, 1)), 64)
		linear.Check(nil, 64)
	}
	for range 1000 {
		if runtime.NumGoroutine() <= first {
			return
		}
		time.Sleep(10 * time.Millisecond)
	}
	t.Errorf("%d goroutines, of which %d were there", runtime.NumGoroutine(), first)
}

// Orders that obey, each key by itself, can always be merged, whichever of them are taken, and what comes of it obeys.
func TestP14_6Locality(t *testing.T) {
	merged := 0
	for seed := range 1500 {
		d := diceOf(seed)
		calls, _ := d.run(1+d.Intn(10), 3)
		orders, fine := d.obeying(calls)
		if !fine {
			continue
		}
		list, e := linear.Merge(calls, orders)
		if e != api.OK || !linear.Obeys(calls, list) {
			t.Fatalf("Merge(%+v, %v): %v, %d", calls, orders, list, e)
		}
		merged++
	}
	if merged < 500 {
		t.Errorf("%d", merged)
	}
}

// obeying gives for each key any of the orders of its calls that obey, unless a key has too many calls to try all.
func (d dice) obeying(calls []api.Call) ([][]int, bool) {
	var orders [][]int
	for _, key := range history.Keys(calls) {
		only, numbers := docOnly(calls, key)
		if len(only) > 5 {
			return nil, false
		}
		var found [][]int
		lists(len(only), func(list []int) {
			if docObeys(only, list) {
				var order []int
				for _, n := range list {
					order = append(order, numbers[n])
				}
				found = append(found, order)
			}
		})
		orders = append(orders, found[d.Intn(len(found))])
	}
	return orders, true
}

func TestP14_6LongRuns(t *testing.T) {
	for seed := range 300 {
		d := diceOf(seed)
		calls := d.fewOfEachKey(3 + d.Intn(254))
		v, e := linear.Check(calls, 1+d.Intn(64))
		if e != api.OK || !v.Ok || !linear.Obeys(calls, v.Order) {
			t.Fatalf("Check(%+v): %+v, %d", calls, v, e)
		}
		for _, key := range history.Keys(calls) {
			only, numbers := docOnly(calls, key)
			w, _ := linear.CheckKey(only)
			var order []int
			for _, n := range w.Order {
				order = append(order, numbers[n])
			}
			kept := slices.DeleteFunc(slices.Clone(v.Order), func(n int) bool { return calls[n].Req.Key != key })
			isSame(t, "a key's order in that of all", kept, order)
		}
	}
}
