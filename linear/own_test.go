package linear_test

import (
	"runtime"
	"slices"
	"strings"
	"testing"

	"shard/api"
	"shard/linear"
)

// roomy gives bytes with spare room behind them.
func roomy(s string) []byte { return append(make([]byte, 0, len(s)+9), s...) }

// sharedCalls are calls in which one list stands under several names.
func sharedCalls(b []byte) []api.Call {
	calls := list(done(set(""), 0, 9), got("", 1, 9), done(cas("", ""), 1, 9), at(8, done(set(""), 3, 4)), at(8, open(cas("", ""), 1)), done(scan(), 0, 9), at(9, missed(5, 6)))
	calls[0].Req.Value, calls[1].Value, calls[2].Req.Old, calls[2].Req.Value, calls[3].Req.Value, calls[4].Req.Old, calls[4].Req.Value = b, b, b, b[1:], b[:2], b[:2], b
	return append(make([]api.Call, 0, len(calls)+3), calls...)
}

// say calls all that there is, and tells what it answered.
func say(calls []api.Call, orders [][]int, value []byte) string {
	said := ""
	for _, workers := range []int{1, 3, 64} {
		v, e := linear.Check(calls, workers)
		said += shown([]any{v, e})
	}
	v, e := linear.CheckKey(calls[:3])
	list, f := linear.Merge(calls, orders)
	said += shown([]any{v, e, list, f, linear.Obeys(calls, list), linear.Obeys(calls, slices.Concat(orders...))})
	for _, c := range calls {
		for _, has := range []bool{false, true} {
			can, then, after := linear.Step(c, has, value)
			said += shown([]any{can, then, after})
		}
	}
	return said
}

func sharedOrders() [][]int {
	numbers := append(make([]int, 0, 9), 0, 1, 2, 3, 6)
	return append(make([][]int, 0, 6), numbers[:3], numbers[3:4], numbers[4:5])
}

// What is handed in is left as it is, its spare room too.
func TestP14_7ArgumentsAreNotChanged(t *testing.T) {
	b := roomy("shared")
	calls, orders := sharedCalls(b), sharedOrders()
	wantCalls, wantOrders := shown(calls[:cap(calls)]), shown(orders[:cap(orders)])
	wantNumbers := shown(orders[0][:cap(orders[0])])
	say(calls, orders, b)
	backward := slices.Clone(orders)
	slices.Reverse(backward)
	say(calls, backward, b)
	isSame(t, "the calls", shown(calls[:cap(calls)]), wantCalls)
	isSame(t, "the orders", shown(orders[:cap(orders)]), wantOrders)
	isSame(t, "the numbers", shown(orders[0][:cap(orders[0])]), wantNumbers)
	isSame(t, "the bytes", string(b[:cap(b)]), "shared"+strings.Repeat("\x00", 9))
}

// What is answered shares no memory, neither with what was handed in nor with another answer.
func TestP14_7AnswersAreNewMemory(t *testing.T) {
	b := roomy("shared")
	calls, orders := sharedCalls(b), sharedOrders()
	rooms := slices.Concat(roomOf(b), roomOf(calls), roomOf(orders), roomOf(orders[0]))
	var held []any
	for range 2 {
		v, e := linear.Check(calls, 3)
		w, f := linear.CheckKey(calls[:3])
		list, g := linear.Merge(calls, orders)
		single, h := linear.Merge(calls[:3], [][]int{orders[0]})
		if e != api.OK || f != api.OK || g != api.OK || h != api.OK || len(v.Order) < 5 || len(w.Order) != 3 || len(list) != 5 || len(single) != 3 {
			t.Fatalf("%+v, %d; %+v, %d; %v, %d; %v, %d", v, e, w, f, list, g, single, h)
		}
		rooms = slices.Concat(rooms, roomOf(v.Order), roomOf(w.Order), roomOf(list), roomOf(single))
		held = append(held, v, w, list, single)
		for _, c := range list3(calls) {
			can, then, after := linear.Step(c, true, b)
			if !can || !then {
				t.Fatalf("%+v", c)
			}
			rooms = append(rooms, roomOf(after)...)
			held = append(held, after)
		}
	}
	if !apart(rooms) {
		t.Errorf("%d lists, of which some share memory", len(rooms))
	}
	runtime.KeepAlive(held)
	runtime.KeepAlive([]any{b, calls, orders})
}

// list3 are calls that leave a value: their own, one they were told, one that was there.
func list3(calls []api.Call) []api.Call {
	return append(calls[:3:3], open(get(), 0), open(cas("x", "y"), 0), known(cas("x", "y"), api.StDiffers, "", 0, 1))
}

// Nothing is kept: what was handed in and what was answered may be written over.
func TestP14_7NothingIsKept(t *testing.T) {
	b := roomy("shared")
	calls, orders := sharedCalls(b), sharedOrders()
	want := say(calls, orders, b)
	v, _ := linear.Check(calls, 2)
	list, _ := linear.Merge(calls, orders)
	_, _, after := linear.Step(calls[0], true, b)
	wantAnswers := shown([]any{v, list, after})
	clear(b)
	clear(calls)
	clear(orders[0][:5])
	isSame(t, "what was answered", shown([]any{v, list, after}), wantAnswers)
	clear(v.Order)
	clear(list)
	clear(after)
	isSame(t, "all", say(sharedCalls(roomy("shared")), sharedOrders(), roomy("shared")), want)
}

// Empty lists, nil or not, are the same.
func TestEmptyListsAreTheSame(t *testing.T) {
	for _, empty := range [][]byte{nil, {}, make([]byte, 0, 9)} {
		a, b, c := done(set("a"), 0, 1), got("a", 2, 3), done(cas("a", "b"), 4, 5)
		a.Req.Value, a.Value, b.Value, c.Req.Old, c.Value = empty, empty, empty, empty, empty
		isOrdered(t, list(a, b, c), 0, 1, 2)
		lost := open(del(), 0)
		lost.Value = empty
		isOrdered(t, list(lost, missed(2, 3)), 0, 1)
		if can, then, after := linear.Step(a, true, empty); !can || !then || len(after) != 0 {
			t.Errorf("%v, %v, %q", can, then, after)
		}
		if can, then, after := linear.Step(b, true, empty); !can || !then || len(after) != 0 {
			t.Errorf("%v, %v, %q", can, then, after)
		}
	}
}

// Whatever is handed in, each call answers.
func TestP14_7NoCallPanics(t *testing.T) {
	for seed := range 3000 {
		d := diceOf(seed)
		calls := make([]api.Call, d.Intn(20))
		for i := range calls {
			calls[i] = at(d.Uint64()%3, d.any(9))
			if d.Intn(20) == 0 {
				d.spoil(&calls[i])
			}
		}
		orders := make([][]int, d.Intn(5))
		for i := range orders {
			for range d.Intn(8) {
				orders[i] = append(orders[i], d.Intn(len(calls)+2)-1)
			}
		}
		linear.Check(calls, d.Intn(70)-2)
		linear.CheckKey(calls)
		if list, e := linear.Merge(calls, orders); e != api.OK && len(list) > 0 {
			t.Errorf("%v, %d", list, e)
		}
		linear.Obeys(calls, slices.Concat(orders...))
		linear.Obeys(calls, edges())
		linear.Merge(calls, [][]int{edges()})
	}
}
