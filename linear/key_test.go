package linear_test

import (
	"fmt"
	"slices"
	"testing"

	"shard/api"
	"shard/linear"
)

func TestP14_3Examples(t *testing.T) {
	isOrdered(t, list(done(set("a"), 0, 3), got("a", 1, 2)), 0, 1)
	isNotLinear(t, done(set("a"), 0, 1), missed(2, 3))
	isOrdered(t, list(open(set("a"), 0), missed(2, 3)), 1)
	isNotLinear(t, open(set("a"), 0), got("a", 5, 6), missed(7, 8))
	isOrdered(t, list(open(set("a"), 0), got("a", 5, 6), missed(7, 8), open(del(), 1)), 0, 1, 3, 2)
	isNotLinear(t, done(set("a"), 0, 1), done(set("b"), 2, 3), got("a", 4, 5))
	isOrdered(t, list(done(set("a"), 0, 1), done(set("b"), 1, 3), got("a", 4, 5)), 1, 0, 2)
	isOrdered(t, list(done(set("a"), 0, 1), done(cas("a", "b"), 4, 5)), 0, 1)
	isNotLinear(t, done(set("a"), 0, 1), known(cas("a", "b"), api.StDiffers, "", 4, 5))
}

func TestP14_3NoCalls(t *testing.T) {
	isOrdered(t, nil)
	isOrdered(t, []api.Call{})
	// It ends as soon as all that is known stands: at once, if nothing is.
	isOrdered(t, list(open(set("a"), 0)))
	isOrdered(t, list(open(get(), 0), open(del(), 1), open(cas("a", "b"), 2)))
}

// At each place stands the least number that can: open calls too, ahead of the last known one.
func TestP14_3LeastOrders(t *testing.T) {
	isOrdered(t, list(done(set("a"), 0, 9), done(set("b"), 0, 9), done(set("c"), 0, 9)), 0, 1, 2)
	isOrdered(t, list(done(set("a"), 0, 9), done(set("b"), 0, 9), got("a", 10, 11)), 1, 0, 2)
	isOrdered(t, list(open(get(), 0), done(set("a"), 0, 9)), 0, 1)
	isOrdered(t, list(done(set("a"), 0, 9), open(get(), 0)), 0)
	isOrdered(t, list(done(set("a"), 0, 1), open(get(), 0), done(set("a"), 2, 3)), 0, 1, 2)
	isOrdered(t, list(open(set("x"), 0), open(set("y"), 0), done(set("a"), 0, 9)), 0, 1, 2)
	isOrdered(t, list(open(set("x"), 0), open(set("y"), 0), got("x", 0, 9)), 0, 2)
	isOrdered(t, list(open(set("x"), 0), open(set("y"), 0), got("y", 0, 9)), 0, 1, 2)
	isOrdered(t, list(open(set("x"), 0), open(set("y"), 0), missed(0, 9)), 2)
	isOrdered(t, list(open(set("x"), 5), done(set("y"), 0, 4), got("y", 6, 7), got("x", 8, 9)), 1, 2, 0, 3)
	// The list's order is not that of time.
	isOrdered(t, list(got("a", 4, 5), done(set("a"), 2, 3), missed(0, 1)), 2, 1, 0)
}

func TestP14_3Times(t *testing.T) {
	isNotLinear(t, got("a", 0, 1), done(set("a"), 2, 3))
	isOrdered(t, list(got("a", 0, 2), done(set("a"), 2, 3)), 1, 0)
	// An open call takes effect late, or never, but not ahead of its begin.
	isOrdered(t, list(open(set("a"), 0), missed(1, 2), got("a", 100, 101)), 1, 0, 2)
	isNotLinear(t, got("a", 0, 1), open(set("a"), 2))
	isOrdered(t, list(got("a", 0, 2), open(set("a"), 2)), 1, 0)
	isNotLinear(t, open(set("a"), 0), got("a", 1, 2), missed(3, 4), got("a", 5, 6))
	isOrdered(t, list(got("a", farPlace-1, farPlace), done(set("a"), 0, farPlace-1)), 1, 0)
	isNotLinear(t, got("a", farPlace-3, farPlace-2), done(set("a"), farPlace-1, farPlace))
}

func TestP14_3Refusals(t *testing.T) {
	fine := done(set("a"), 0, 1)
	refused := func(calls []api.Call, want api.Errno) {
		t.Helper()
		v, e := linear.CheckKey(calls)
		isSame(t, "CheckKey "+shown(calls), []any{v, e}, []any{api.Verdict{}, want})
	}
	for _, bad := range badCalls() {
		refused(list(bad), api.ErrCalls)
		refused(list(fine, bad), api.ErrCalls)
		refused(list(bad, fine), api.ErrCalls)
	}
	for _, s := range list(done(scan(), 0, 1), open(scan(), 0)) {
		refused(list(s), api.ErrCalls)
		refused(list(s, fine), api.ErrCalls)
		refused(list(fine, s), api.ErrCalls)
	}
	refused(list(fine, at(8, fine)), api.ErrCalls)
	refused(list(fine, fine, at(6, fine)), api.ErrCalls)
	refused(list(at(0, fine), at(1<<63, fine)), api.ErrCalls)
	// Too many comes ahead of what is wrong with them.
	for _, c := range append(badCalls(), fine, done(scan(), 0, 1)) {
		refused(slices.Repeat(list(c), 17), api.ErrMany)
	}
	refused(append(slices.Repeat(list(fine), 16), at(8, fine)), api.ErrMany)
	refused(slices.Repeat(list(fine), 1000), api.ErrMany)
	refused(append(slices.Repeat(list(fine), 15), at(8, fine)), api.ErrCalls)
}

// The verdict that is not Ok tells the key, whichever it is.
func TestP14_3Keys(t *testing.T) {
	for _, key := range []uint64{0, 1, 7, 1 << 63, 1<<64 - 1} {
		isNotLinear(t, at(key, done(set("a"), 0, 1)), at(key, missed(2, 3)))
		isOrdered(t, list(at(key, done(set("a"), 0, 1)), at(key, got("a", 2, 3))), 0, 1)
	}
}

// Fields that are not named count for nothing, nor do places that are the same.
func TestP14_3OtherFields(t *testing.T) {
	a, b := done(set("a"), 0, 3), got("a", 0, 3)
	a.Who, a.Seq, a.Req.Hi, a.Req.Limit, a.Req.Old, a.Req.Has = 255, 0, 1, 200, []byte("z"), true
	b.Who, b.Req.Value = 0, []byte("q")
	isOrdered(t, list(a, b), 0, 1)
	isOrdered(t, list(b, a), 1, 0)
	isOrdered(t, list(a, a, b, b, a), 0, 1, 2, 3, 4)
	// A value that only a Get's request has is never set.
	isNotLinear(t, b, got("q", 4, 5), a)
	open := open(get(), 0)
	open.Req.Value = []byte("q")
	isNotLinear(t, open, got("q", 4, 5))
}

// All lists of up to three calls of some kinds at some places.
func TestP14_3AllShortLists(t *testing.T) {
	var some []api.Call
	for _, places := range [][2]int{{0, 1}, {0, 3}, {2, 3}} {
		for _, c := range list(got("a", 0, 1), got("b", 0, 1), missed(0, 1), done(set("a"), 0, 1), done(set("b"), 0, 1), done(del(), 0, 1), done(cas("a", "b"), 0, 1), known(cas("a", "b"), api.StDiffers, "", 0, 1), done(create("a"), 0, 1), known(create("a"), api.StNoCredit, "", 0, 1)) {
			c.Begin, c.End = places[0], places[1]
			some = append(some, c)
		}
	}
	for _, begin := range []int{0, 2} {
		some = append(some, open(set("a"), begin), open(del(), begin), open(cas("b", "a"), begin))
	}
	counts := map[bool]int{}
	for _, a := range some {
		isLike(t, list(a))
		for _, b := range some {
			isLike(t, list(a, b))
			for _, c := range some {
				v, e := linear.CheckKey(list(a, b, c))
				want := docJudge(list(a, b, c))
				if e != api.OK || v.Ok != want.Ok || v.Key != want.Key || !slices.Equal(v.Order, want.Order) {
					t.Fatalf("CheckKey(%+v): %+v, %d; want %+v", list(a, b, c), v, e, want)
				}
				counts[v.Ok]++
			}
		}
	}
	if counts[true] < 5000 || counts[false] < 5000 {
		t.Errorf("%v", counts)
	}
}

func TestP14_3RandomCalls(t *testing.T) {
	counts := map[bool]int{}
	for seed := range 1500 {
		d := diceOf(seed)
		var calls []api.Call
		for range 1 + d.Intn(5) {
			calls = append(calls, d.any(6))
		}
		counts[isLike(t, calls).Ok]++
		calls, _ = d.run(1+d.Intn(6), 1)
		isSame(t, "a run", isLike(t, calls).Ok, true)
		d.spoil(&calls[d.Intn(len(calls))])
		isLike(t, calls)
		if t.Failed() {
			return
		}
	}
	if counts[true] < 200 || counts[false] < 200 {
		t.Errorf("%v", counts)
	}
}

// As many calls as may be: what took effect one behind the other is linearizable, and the order obeys and is not above the one that it took effect in.
func TestP14_3LongRuns(t *testing.T) {
	counts := map[bool]int{}
	for seed := range 600 {
		d := diceOf(seed)
		calls, order := d.run(10+d.Intn(7), 1)
		v, e := linear.CheckKey(calls)
		if e != api.OK || !v.Ok || !linear.Obeys(calls, v.Order) || slices.Compare(v.Order, order) > 0 {
			t.Fatalf("CheckKey(%+v): %+v, %d; %v", calls, v, e, order)
		}
		i := d.Intn(len(calls))
		other := d.any(5)
		other.Begin, other.End = calls[i].Begin, calls[i].End
		if other.Status == 0 || other.End == -1 {
			continue
		}
		calls[i] = at(0, other)
		v, e = linear.CheckKey(calls)
		if e != api.OK || v.Ok && !linear.Obeys(calls, v.Order) {
			t.Fatalf("CheckKey(%+v): %+v, %d", calls, v, e)
		}
		counts[v.Ok]++
	}
	if counts[true] < 50 || counts[false] < 50 {
		t.Errorf("%v", counts)
	}
}

// Sixteen calls, all open at once: all orders of them would take years.
func TestP14_3HardOnes(t *testing.T) {
	inTime(t, func() {
		var sets, opens []api.Call
		for i := range 15 {
			sets = append(sets, done(set(fmt.Sprint(i)), 0, 99))
			opens = append(opens, open(set(fmt.Sprint(i)), 0))
		}
		isNotLinear(t, append(sets, got("x", 0, 99))...)
		isNotLinear(t, append(sets, missed(100, 101))...)
		isNotLinear(t, append(opens, got("x", 0, 99))...)
		isOrdered(t, append(sets, got("0", 100, 101)), 1, 2, 3, 4, 5, 6, 7, 8, 9, 10, 11, 12, 13, 14, 0, 15)
		isOrdered(t, append(opens, got("14", 0, 99)), 0, 1, 2, 3, 4, 5, 6, 7, 8, 9, 10, 11, 12, 13, 14, 15)
		isOrdered(t, append(opens, missed(0, 99)), 15)
		var chain []api.Call
		for i := range 16 {
			chain = append(chain, done(cas(fmt.Sprint(15-i), fmt.Sprint(16-i)), 0, 99))
		}
		isNotLinear(t, chain...)
		chain[15] = done(create("1"), 0, 99)
		isOrdered(t, chain, 15, 14, 13, 12, 11, 10, 9, 8, 7, 6, 5, 4, 3, 2, 1, 0)
	})
}
