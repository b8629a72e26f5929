package history_test

import (
	"slices"
	"strings"
	"testing"
	"time"

	"shard/api"
	"shard/history"
)

// Calls of which one or two are spoiled, against the document's rules.
func TestWholeOfSpoiledCalls(t *testing.T) {
	counts := map[api.Errno]int{}
	for seed := range 3000 {
		d := diceOf(seed)
		calls := d.calls(2 + d.Intn(20))
		if len(calls) == 0 {
			continue
		}
		for range 1 + d.Intn(2) {
			d.spoilCall(&calls[d.Intn(len(calls))])
		}
		isLike(t, calls)
		_, e := history.Check(calls)
		counts[e]++
		if t.Failed() {
			return
		}
	}
	if counts[api.OK] < 200 || counts[api.ErrCall] < 500 {
		t.Errorf("%v", counts)
	}
}

// All of it, from a log to its calls, their text and back.
func TestWholeWayRound(t *testing.T) {
	for seed := range 300 {
		d := diceOf(seed)
		calls, _, e := history.Fold(d.log(60))
		if e != api.OK {
			t.Fatal(e)
		}
		isChecked(t, calls, 0, api.OK)
		s, _ := history.Print(calls)
		isParsed(t, s, calls...)
		log, _ := history.Unfold(calls)
		for _, event := range log {
			isEvent(t, event, true)
		}
		// Cuts fall where nothing is open: between them each part has its own log.
		for _, i := range history.Cuts(calls) {
			if slices.ContainsFunc(calls[:i], func(c api.Call) bool { return !history.Before(c, calls[i]) }) {
				t.Errorf("Cuts(%+v): %d", calls, i)
			}
		}
	}
}

// many gives so many calls, of which sixteen are open at most of the places.
func many(n int) []api.Call {
	calls := make([]api.Call, n)
	for i := range calls {
		calls[i] = done(i%16, uint64(i/16+1), set(uint64(n-i), "v"), 2*i, 2*i+31)
	}
	return calls
}

// The work does not grow with the square of the length: else this would not end in time.
func TestP13_12WorkOfLongLists(t *testing.T) {
	const n = 1 << 18
	ended := make(chan struct{})
	go func() {
		defer close(ended)
		calls := many(n)
		isChecked(t, calls, 0, api.OK)
		log, e := history.Unfold(calls)
		isSame(t, "Unfold", []any{len(log), e}, []any{2 * n, api.OK})
		again, _, e := history.Fold(log)
		isSame(t, "Fold", []any{len(again), e}, []any{n, api.OK})
		s, e := history.Print(calls)
		isSame(t, "Print", []any{strings.Count(s, "\n"), e}, []any{n, api.OK})
		parsed, _, e := history.Parse(s)
		isSame(t, "Parse", []any{len(parsed), e}, []any{n, api.OK})
		isSame(t, "times", []int{history.Open(calls), len(history.Cuts(calls)), len(history.Keys(calls)), len(history.Only(calls, 1))}, []int{16, 0, n, 1})
		for i := range calls {
			calls[i].Begin, calls[i].End = 2*i, 2*i+1
		}
		isSame(t, "times", []int{history.Open(calls), len(history.Cuts(calls))}, []int{1, n - 1})
	}()
	select {
	case <-ended:
	case <-time.After(2 * time.Minute):
		t.Fatal("still at work")
	}
}

// Nor does it with the square of a line's length.
func TestP13_12WorkOfLongLines(t *testing.T) {
	ended := make(chan struct{})
	go func() {
		defer close(ended)
		const n = 1 << 22
		for _, unit := range []string{" ", `"`, `\`, `\"`, `" `, "0", "..", "c0 ", "\xff"} {
			isRefused(t, strings.Repeat(unit, n), 1, api.ErrHisText)
			isRefused(t, "c0 0..1 ok "+strings.Repeat(unit, n)+"\n", 1, api.ErrHisText)
			isRefused(t, `c0 0..1 ok "`+strings.Repeat(unit, n)+"\" get seq=1 key=5\n", 1, api.ErrHisText)
			isRefused(t, `c0 0..1 ok set seq=1 key=5 value="`+strings.Repeat(unit, n)+"\"\n", 1, api.ErrHisText)
		}
		isRefused(t, strings.Repeat("\n", n), 1, api.ErrHisText)
	}()
	select {
	case <-ended:
	case <-time.After(2 * time.Minute):
		t.Fatal("still at work")
	}
}
