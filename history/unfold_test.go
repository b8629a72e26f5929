package history_test

import (
	"testing"

	"shard/api"
	"shard/history"
)

func isLog(t *testing.T, calls []api.Call, want ...api.Event) {
	t.Helper()
	for i := range want {
		want[i].Step = i
	}
	if log, e := history.Unfold(calls); e != api.OK || shown(log) != shown(want) {
		t.Errorf("Unfold(%+v): %+v, %d; want %+v", calls, log, e, want)
	}
}

func TestP13_3LogsOfCalls(t *testing.T) {
	isLog(t, nil)
	isLog(t, []api.Call{open(0, 1, set(5, "v"), 0), done(0, 2, del(5), 4, 9)},
		begins(0, 1, set(5, "v")), givesUp(0, 1), begins(0, 2, del(5)), ends(0, 2, api.StOK, ""))
	// The last call of a client is not given up.
	isLog(t, []api.Call{open(3, 7, get(5), 8)}, begins(3, 7, get(5)))
	// Only its own call ahead is given up, and only if its outcome is not known.
	isLog(t, []api.Call{open(0, 1, get(5), 0), open(1, 1, get(6), 1), done(0, 3, get(7), 2, 3), open(0, 4, get(8), 6), open(1, 9, get(9), 7)},
		begins(0, 1, get(5)), begins(1, 1, get(6)), givesUp(0, 1), begins(0, 3, get(7)), ends(0, 3, api.StOK, ""), begins(0, 4, get(8)), givesUp(1, 1), begins(1, 9, get(9)))
	// Ends come by their places.
	isLog(t, []api.Call{call(0, 1, get(5), 0, farPlace, api.StOK, "v"), call(1, 1, cas(5, "a", "b"), 10, 30, api.StDiffers, ""), call(15, 1, create(5, "c"), 20, 25, api.StNoCredit, "")},
		begins(0, 1, get(5)), begins(1, 1, cas(5, "a", "b")), begins(15, 1, create(5, "c")), ends(15, 1, api.StNoCredit, ""), ends(1, 1, api.StDiffers, ""), ends(0, 1, api.StOK, "v"))
	// Of a scan's answer the Hi is the request's.
	isLog(t, []api.Call{done(0, 1, scan(5, 20, 3), 0, 1)}, begins(0, 1, scan(5, 20, 3)), scanEnds(0, 1, 20))
}

func TestP13_3CallsThatMayNotBe(t *testing.T) {
	for _, calls := range [][]api.Call{{{}}, {done(0, 1, del(5), 3, 2)}, {done(0, 1, del(5), 0, 1), done(0, 1, del(5), 2, 3)}, {done(0, 1, del(5), 0, 1), {}}} {
		if log, e := history.Unfold(calls); e != api.ErrCall || len(log) != 0 {
			t.Errorf("Unfold(%+v): %+v, %d", calls, log, e)
		}
	}
}

// closeUp gives calls with the places that they have in the log that Unfold makes of them.
func closeUp(calls []api.Call, log []api.Event) []api.Call {
	var moved []api.Call
	for _, c := range calls {
		for i, e := range log {
			switch {
			case e.Who != c.Who || e.Seq != c.Seq:
			case e.Kind == api.EvInvoke:
				c.Begin = i
			case e.Kind == api.EvReturn:
				c.End = i
			}
		}
		moved = append(moved, c)
	}
	return moved
}

// Fold of what Unfold makes gives the calls again; so places that lie close stay as they are.
func TestP13_3BackAndForth(t *testing.T) {
	for seed := range 800 {
		d := diceOf(seed)
		calls := d.calls(1 + d.Intn(40))
		isLike(t, calls)
		log, e := history.Unfold(calls)
		if e != api.OK {
			t.Fatalf("Unfold(%+v): %d", calls, e)
		}
		close := closeUp(calls, log)
		isFolded(t, log, close...)
		again, e := history.Unfold(close)
		isSame(t, "Unfold", []any{again, e}, []any{log, api.OK})
	}
}
