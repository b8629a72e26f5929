package linear_test

import (
	"slices"
	"testing"

	"shard/api"
	"shard/linear"
)

func obeys(t *testing.T, want bool, calls []api.Call, order ...int) {
	t.Helper()
	if linear.Obeys(calls, order) != want {
		t.Errorf("Obeys(%+v, %v): %v", calls, order, !want)
	}
}

func TestP14_2WhichNumbersStand(t *testing.T) {
	obeys(t, true, nil)
	obeys(t, false, nil, 0)
	calls := list(done(set("a"), 0, 9), open(set("b"), 0), done(scan(), 0, 9), open(scan(), 0), got("a", 0, 9))
	obeys(t, true, calls, 0, 4)
	obeys(t, true, calls, 1, 0, 4)
	obeys(t, true, calls, 0, 4, 1)
	obeys(t, false, calls, 0)
	obeys(t, false, calls, 4)
	obeys(t, false, calls)
	obeys(t, false, calls, 0, 4, 2)
	obeys(t, false, calls, 0, 4, 3)
	obeys(t, false, calls, 0, 4, 5)
	obeys(t, false, calls, 0, 4, -1)
	obeys(t, false, calls, 0, 4, farPlace)
	obeys(t, false, calls, 0, 4, -farPlace-1)
	obeys(t, false, calls, 0, 0, 4)
	obeys(t, false, calls, 0, 4, 4)
	obeys(t, false, calls, 1, 0, 4, 1)
	obeys(t, true, list(open(set("a"), 0)))
	obeys(t, true, list(open(set("a"), 0)), 0)
	obeys(t, true, list(done(scan(), 0, 1)))
	obeys(t, false, list(done(scan(), 0, 1)), 0)
}

func TestP14_2Times(t *testing.T) {
	// Before is one whose End is below the other's Begin.
	obeys(t, true, list(done(set("a"), 0, 1), done(set("b"), 2, 3)), 0, 1)
	obeys(t, false, list(done(set("a"), 0, 1), done(set("b"), 2, 3)), 1, 0)
	obeys(t, true, list(done(set("a"), 0, 2), done(set("b"), 2, 3)), 1, 0)
	// Nothing is behind a call whose outcome isn't known; but that one may be behind others.
	obeys(t, true, list(open(set("a"), 0), done(set("b"), 2, 3)), 1, 0)
	obeys(t, false, list(done(set("a"), 0, 1), open(set("b"), 2)), 1, 0)
	// Times bind calls of different keys too, and those far from each other in the order.
	obeys(t, false, list(done(set("a"), 0, 1), at(8, done(set("b"), 2, 3))), 1, 0)
	obeys(t, false, list(at(1, done(set("a"), 3, 9)), at(2, done(set("a"), 0, 9)), at(3, done(set("a"), 1, 9)), at(4, done(set("a"), 0, 2))), 0, 1, 2, 3)
	obeys(t, true, list(at(1, done(set("a"), 2, 9)), at(2, done(set("a"), 0, 9)), at(3, done(set("a"), 1, 9)), at(4, done(set("a"), 0, 2))), 0, 1, 2, 3)
	// A Scan binds nobody.
	obeys(t, true, list(done(set("a"), 4, 5), done(scan(), 6, 7), at(8, done(set("b"), 0, 9))), 0, 2)
	obeys(t, true, list(done(set("a"), farPlace-1, farPlace), done(set("b"), 0, farPlace-1)), 0, 1)
	obeys(t, false, list(done(set("a"), farPlace-1, farPlace), done(set("b"), 0, farPlace-2)), 0, 1)
}

func TestP14_2Values(t *testing.T) {
	calls := list(done(set("a"), 0, 9), at(8, done(set("b"), 0, 9)), got("a", 0, 9), at(8, got("b", 0, 9)), at(9, missed(0, 9)))
	obeys(t, true, calls, 0, 1, 2, 3, 4)
	obeys(t, true, calls, 4, 1, 3, 0, 2)
	obeys(t, false, calls, 2, 0, 1, 3, 4)
	obeys(t, false, calls, 0, 3, 1, 2, 4)
	// The last call counts as the first one does.
	obeys(t, false, list(done(set("a"), 0, 9), got("b", 0, 9)), 0, 1)
	obeys(t, false, list(got("", 0, 9)), 0)
	// No value of a key is at first, whatever others have.
	obeys(t, false, list(done(set("a"), 0, 9), at(0, got("a", 0, 9))), 0, 1)
}

// A call that may not be spoils all orders, whether it stands in them or not.
func TestP14_2CallsThatMayNotBe(t *testing.T) {
	fine := done(set("a"), 0, 1)
	for _, bad := range badCalls() {
		obeys(t, false, list(bad))
		obeys(t, false, list(bad), 0)
		obeys(t, false, list(fine, bad), 0)
		obeys(t, false, list(fine, bad), 0, 1)
		obeys(t, false, list(bad, fine), 1)
	}
}

// badCalls are calls that may not be, each by one thing.
func badCalls() []api.Call {
	return list(
		done(set("a"), 1, 1), done(set("a"), 2, 1), done(set("a"), -1, 1), open(set("a"), -1), done(set("a"), 0, -2), done(set("a"), 0, -1), known(set("a"), 0, "", 0, 1),
		api.Call{End: 1, Status: api.StOK}, api.Call{End: -1}, api.Call{Req: api.Request{Kind: api.KReply}, End: 1, Status: api.StOK}, api.Call{Req: api.Request{Kind: 255}, End: -1},
		known(get(), api.StDiffers, "", 0, 1), known(get(), api.StNoCredit, "", 0, 1), known(set(""), api.StMissing, "", 0, 1), known(set(""), api.StDiffers, "", 0, 1),
		known(del(), api.StDiffers, "", 0, 1), known(del(), api.StNoCredit, "", 0, 1), known(cas("", ""), api.StMissing, "", 0, 1), known(cas("", ""), api.StNoCredit, "", 0, 1), known(create(""), api.StMissing, "", 0, 1),
		known(scan(), api.StMissing, "", 0, 1), known(scan(), api.StNoCredit, "", 0, 1), known(set(""), api.StNoBound, "", 0, 1), known(set(""), 255, "", 0, 1),
		known(get(), api.StMissing, "a", 0, 1), known(get(), 0, "a", 0, -1), known(get(), api.StMissing, "", 0, -1), known(set("a"), api.StOK, "a", 0, 1), known(del(), api.StOK, "a", 0, 1), known(cas("", ""), api.StOK, "a", 0, 1), known(scan(), api.StOK, "a", 0, 1))
}

// All lists of some numbers, of random calls of a few keys.
func TestP14_2AllLists(t *testing.T) {
	counts := map[bool]int{}
	for seed := range 400 {
		d := diceOf(seed)
		calls, order := d.run(1+d.Intn(4), 2)
		if d.Intn(3) == 0 {
			calls[0].Req.Kind = api.KScan
		}
		if d.Intn(3) == 0 {
			d.spoil(&calls[d.Intn(len(calls))])
		}
		lists(len(calls)+1, func(list []int) {
			want := docObeys(calls, list)
			counts[want]++
			obeys(t, want, calls, list...)
		})
		twice := append(slices.Clone(order), order...)
		obeys(t, docObeys(calls, twice), calls, twice...)
	}
	if counts[true] < 400 || counts[false] < 400 {
		t.Errorf("%v", counts)
	}
}

func TestP14_2RandomRuns(t *testing.T) {
	for seed := range 400 {
		d := diceOf(seed)
		calls, order := d.run(1+d.Intn(300), 1+d.Uint64()%20)
		obeys(t, true, calls, order...)
		for range 10 {
			other := slices.Clone(order)
			if len(other) > 1 {
				i := d.Intn(len(other) - 1)
				other[i], other[i+1] = other[i+1], other[i]
			}
			obeys(t, docObeys(calls, other), calls, other...)
		}
	}
}

// It has no limit but those of time.
func TestP14_2LongLists(t *testing.T) {
	inTime(t, func() {
		const n = 1 << 18
		calls, order := make([]api.Call, n), make([]int, n)
		for i := range calls {
			calls[i] = at(uint64(i%1000), done(set("v"), i, i+50))
			order[i] = i
		}
		obeys(t, true, calls, order...)
		order[n-2], order[n-1] = n-1, n-2
		obeys(t, true, calls, order...)
		order[0], order[n-1] = n-2, 0
		if linear.Obeys(calls, order) {
			t.Error("the last call stands first")
		}
		if linear.Obeys(calls, order[1:]) || linear.Obeys(calls, make([]int, 1<<22)) {
			t.Error("a call is wanting, or stands too often")
		}
	})
}
