package history_test

import (
	"math"
	"testing"

	"shard/api"
	"shard/history"
)

func TestP13_7KeysAndTheirCalls(t *testing.T) {
	isSame(t, "Keys", history.Keys(nil), []uint64{})
	isSame(t, "Only", history.Only(nil, 0), []int{})
	calls := []api.Call{done(0, 1, set(7, ""), 0, 1), done(0, 2, get(3), 2, 3), done(0, 3, scan(5, 9, 1), 4, 5), open(1, 1, del(top), 6), done(0, 4, cas(7, "", ""), 7, 8), done(0, 5, scan(3, 9, 1), 9, 10), open(2, 1, create(0, ""), 11)}
	isSame(t, "Keys", history.Keys(calls), []uint64{0, 3, 7, top})
	for key, want := range map[uint64][]int{0: {6}, 3: {1}, 7: {0, 4}, top: {3}, 5: nil, 9: nil, 1: nil} {
		isSame(t, "Only", history.Only(calls, key), want)
	}
	// Calls that may not be count by their key too, whatever their kind, but for a scan's.
	odd := []api.Call{{Req: api.Request{Key: 4}}, {Req: api.Request{Kind: 99, Key: 2}}, {Req: api.Request{Kind: api.KScan, Key: 1}}, {Req: api.Request{Kind: api.KReply, Key: 4}}}
	isSame(t, "Keys", history.Keys(odd), []uint64{2, 4})
	isSame(t, "Only", history.Only(odd, 4), []int{0, 3})
	isSame(t, "Only", history.Only(odd, 1), []int{})
	only := []api.Call{done(0, 1, scan(5, 9, 1), 0, 1)}
	isSame(t, "Keys", history.Keys(only), []uint64{})
}

func TestP13_8Before(t *testing.T) {
	for _, c := range []struct {
		a, b   api.Call
		before bool
	}{
		{span(0, 1), span(2, 3), true}, {span(0, 1), span(1, 3), false}, {span(0, 2), span(1, 3), false}, {span(2, 3), span(0, 1), false},
		{span(0, 0), span(1, 0), true}, {span(0, 0), span(0, 0), false}, {span(5, 0), span(1, 0), true},
		{span(0, -1), span(5, 6), false}, {span(0, -2), span(5, 6), false}, {span(0, math.MinInt), span(5, 6), false},
		{span(0, 1), span(2, -1), true}, {span(0, -1), span(2, -1), false},
		{span(0, -2), span(-1, 6), false}, {span(0, math.MaxInt-1), span(math.MaxInt, 0), true}, {span(0, math.MaxInt), span(math.MaxInt, 0), false},
	} {
		if got := history.Before(c.a, c.b); got != c.before {
			t.Errorf("Before(%+v, %+v): %v", c.a, c.b, got)
		}
	}
}

// spread gives calls of as many clients, at these places.
func spread(places ...[2]int) []api.Call {
	var calls []api.Call
	for n, p := range places {
		c := open(n, 1, del(5), p[0])
		if p[1] >= 0 {
			c = done(n, 1, del(5), p[0], p[1])
		}
		calls = append(calls, c)
	}
	return calls
}

func TestP13_9Order(t *testing.T) {
	line := []api.Call{done(0, 1, set(5, "v"), 0, 1), done(0, 2, get(5), 2, 3), done(0, 3, scan(5, 9, 1), 4, 5)}
	for _, c := range []struct {
		calls []api.Call
		want  [][2]int
	}{
		{nil, nil}, {line, [][2]int{{0, 1}, {1, 2}}}, {line[:1], nil},
		{spread([2]int{0, 5}, [2]int{1, 2}, [2]int{3, 4}), [][2]int{{1, 2}}},
		{spread([2]int{0, -1}, [2]int{1, 2}), nil},
		{spread([2]int{0, 1}, [2]int{2, -1}, [2]int{3, 4}, [2]int{5, 6}), [][2]int{{0, 1}, {0, 2}, {2, 3}}},
		{spread([2]int{0, 1}, [2]int{2, -1}, [2]int{3, -1}), [][2]int{{0, 1}, {0, 2}}},
		{spread([2]int{0, 3}, [2]int{1, 2}, [2]int{4, 7}, [2]int{5, 6}, [2]int{8, 9}), [][2]int{{0, 2}, {0, 3}, {1, 2}, {1, 3}, {2, 4}, {3, 4}}},
		{spread([2]int{0, 1}, [2]int{2, 9}, [2]int{3, 4}, [2]int{5, 8}, [2]int{6, 7}), [][2]int{{0, 1}, {0, 2}, {2, 3}, {2, 4}}},
		{spread([2]int{0, 1}, [2]int{2, farPlace}, [2]int{farPlace - 2, farPlace - 1}), [][2]int{{0, 1}, {0, 2}}},
	} {
		pairs, e := history.Order(c.calls)
		isSame(t, "Order", []any{pairs, e}, []any{c.want, api.OK})
	}
	for _, calls := range [][]api.Call{{{}}, {line[1], line[0]}, {line[0], line[0]}, {done(0, 1, del(5), 3, 2)}} {
		if pairs, e := history.Order(calls); e != api.ErrCall || len(pairs) != 0 {
			t.Errorf("Order(%+v): %v, %d", calls, pairs, e)
		}
	}
}

// From the pairs all others follow, and from no fewer of them.
func TestP13_9FromThePairsAllOthersFollow(t *testing.T) {
	for seed := range 500 {
		d := diceOf(seed)
		calls := d.calls(1 + d.Intn(40))
		pairs, _ := history.Order(calls)
		for left := -1; left < len(pairs); left++ {
			follows := map[[2]int]bool{}
			for i, p := range pairs {
				follows[p] = i != left
			}
			for k := range calls {
				for i := range calls {
					for j := range calls {
						if follows[[2]int{i, k}] && follows[[2]int{k, j}] {
							follows[[2]int{i, j}] = true
						}
					}
				}
			}
			all := true
			for i := range calls {
				for j := range calls {
					is, said := history.Before(calls[i], calls[j]), follows[[2]int{i, j}]
					if said && !is {
						t.Fatalf("%+v: %d is not before %d", calls, i, j)
					}
					all = all && is == said
				}
			}
			if all != (left == -1) {
				t.Fatalf("%+v: %v, without %d: %v", calls, pairs, left, all)
			}
		}
	}
}

func TestP13_10Open(t *testing.T) {
	for _, c := range []struct {
		calls []api.Call
		want  int
	}{
		{nil, 0}, {[]api.Call{span(0, 1)}, 1}, {[]api.Call{span(0, -1)}, 1},
		{[]api.Call{span(0, 1), span(2, 3), span(4, 5)}, 1},
		{[]api.Call{span(0, 5), span(1, 2), span(3, 4)}, 2},
		{[]api.Call{span(0, -1), span(1, 2), span(5, 6)}, 2},
		{[]api.Call{span(0, -1), span(1, -1), span(2, -1)}, 3},
		// Both ends are within.
		{[]api.Call{span(0, 3), span(3, 5)}, 2}, {[]api.Call{span(0, 3), span(4, 5)}, 1}, {[]api.Call{span(5, 5), span(5, 5)}, 2}, {[]api.Call{span(5, 5)}, 1},
		{[]api.Call{span(0, 3), span(3, 5), span(5, 5), span(5, 4)}, 2},
		// What ends ahead of its begin is open nowhere.
		{[]api.Call{span(5, 4)}, 0}, {[]api.Call{span(5, 0), span(0, 9)}, 1}, {[]api.Call{span(5, 1), span(0, 9), span(3, 9)}, 2}, {[]api.Call{span(math.MaxInt, 0)}, 0},
		// In no order, and at no places.
		{[]api.Call{span(8, 9), span(0, 2), span(1, 8)}, 2}, {[]api.Call{span(3, -7), span(1, 4)}, 2}, {[]api.Call{span(3, -7), span(1, 2)}, 1},
		{[]api.Call{span(-5, 0), span(-9, 1), span(0, 0)}, 3}, {[]api.Call{span(-5, -1), span(-9, -4)}, 2},
		{[]api.Call{span(0, math.MaxInt), span(math.MaxInt, math.MaxInt), span(math.MaxInt, -1)}, 3}, {[]api.Call{span(math.MinInt, 0), span(math.MinInt, math.MinInt)}, 2},
		{[]api.Call{span(0, 0), span(0, 0), span(1, 1), span(1, 1), span(1, 1)}, 3},
	} {
		if got := history.Open(c.calls); got != c.want {
			t.Errorf("Open(%+v): %d; want %d", c.calls, got, c.want)
		}
		isLikeInTime(t, c.calls)
	}
}

func TestP13_11Cuts(t *testing.T) {
	for _, c := range []struct {
		calls []api.Call
		want  []int
	}{
		{nil, nil}, {[]api.Call{span(0, 1)}, nil}, {[]api.Call{span(0, -1)}, nil},
		{[]api.Call{span(0, 1), span(2, 3), span(4, 5)}, []int{1, 2}},
		{[]api.Call{span(0, 5), span(1, 2), span(3, 4)}, nil},
		{[]api.Call{span(0, 3), span(1, 2), span(4, 7), span(5, 6), span(8, -1)}, []int{2, 4}},
		{[]api.Call{span(0, 1), span(2, -1), span(5, 6)}, []int{1}}, {[]api.Call{span(0, -1), span(5, 6), span(7, 8)}, nil},
		// A call behind that begins early bars all cuts up to it.
		{[]api.Call{span(0, 1), span(5, 6), span(2, 3)}, []int{1}}, {[]api.Call{span(0, 1), span(5, 6), span(1, 3), span(7, 8)}, []int{3}},
		{[]api.Call{span(3, 1), span(2, 0), span(2, 2)}, []int{1, 2}}, {[]api.Call{span(0, 1), span(1, 2)}, nil}, {[]api.Call{span(0, 0), span(0, 0)}, nil}, {[]api.Call{span(0, 0), span(1, 0)}, []int{1}},
		{[]api.Call{span(0, 9), span(10, 3), span(8, 8), span(11, 12)}, []int{3}},
		{[]api.Call{span(0, 0), span(math.MaxInt, math.MaxInt), span(math.MaxInt, 0)}, []int{1}}, {[]api.Call{span(0, -3), span(-1, 6)}, nil}, {[]api.Call{span(-3, 0), span(-1, 6)}, nil},
	} {
		isSame(t, "Cuts "+shown(c.calls), history.Cuts(c.calls), c.want)
		isLikeInTime(t, c.calls)
	}
}

// Cuts and Open of all short lists at few places, those that may not be too.
func TestP13_12AllShortListsInTime(t *testing.T) {
	var all []api.Call
	for begin := -1; begin < 4; begin++ {
		for end := -2; end < 4; end++ {
			all = append(all, span(begin, end))
		}
	}
	for _, a := range all {
		for _, b := range all {
			for _, c := range all {
				calls := []api.Call{a, b, c}
				if history.Open(calls) != docOpen(calls) || shown(history.Cuts(calls)) != shown(docCuts(calls)) {
					t.Fatalf("%+v: Open %d, Cuts %v", calls, history.Open(calls), history.Cuts(calls))
				}
			}
		}
	}
}

// Any calls at all.
func TestP13_12RandomListsInTime(t *testing.T) {
	for seed := range 3000 {
		d := diceOf(seed)
		var calls []api.Call
		for range d.Intn(12) {
			c := api.Call{Req: d.request(), Begin: d.place(), End: d.place()}
			if d.Intn(3) == 0 {
				c.Req.Kind = api.Kind(d.Intn(256))
			}
			calls = append(calls, c)
		}
		isLikeInTime(t, calls)
	}
}
