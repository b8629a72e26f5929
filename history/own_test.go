package history_test

import (
	"runtime"
	"slices"
	"strings"
	"testing"

	"shard/api"
	"shard/history"
)

// roomy gives bytes with spare room behind them.
func roomy(s string) []byte { return append(make([]byte, 0, len(s)+9), s...) }

// shared is a log in which one list stands under several names.
func sharedLog(list []byte) []api.Event {
	log := []api.Event{
		begins(0, 1, api.Request{Kind: api.KCas, Key: 7, Has: true, Old: list, Value: list[1:]}),
		begins(1, 1, get(7)),
		begins(2, 1, api.Request{Kind: api.KSet, Key: 7, Value: list}),
		ends(1, 1, api.StOK, ""),
		begins(3, 1, scan(7, 9, 3)),
		scanEnds(3, 1, 9, 7, 8),
		begins(1, 2, get(8)),
		ends(1, 2, api.StOK, ""),
		asks(0, 1),
		givesUp(0, 1),
	}
	log[3].Out.Value, log[7].Out.Value = list, list[:2]
	log[5].Out.Pairs[0].Value, log[5].Out.Pairs[1].Value = list, list
	return append(make([]api.Event, 0, len(log)+3), log...)
}

// sharedCalls are the calls of sharedLog, with the same list.
func sharedCalls(list []byte) []api.Call {
	calls, _, _ := docFold(sharedLog(list))
	return append(make([]api.Call, 0, len(calls)+3), calls...)
}

// callAll calls all that takes a log or calls.
func callAll(log []api.Event, calls []api.Call) string {
	said := ""
	say := func(values ...any) { said += shown(values) + "\n" }
	for _, e := range log {
		s, err := history.Line(e)
		say(s, err)
	}
	folded, at, err := history.Fold(log)
	say(folded, at, err)
	unfolded, err := history.Unfold(calls)
	say(unfolded, err)
	s, err := history.Print(calls)
	say(s, err)
	i, err := history.Check(calls)
	say(i, err)
	order, err := history.Order(calls)
	say(order, err)
	say(history.Keys(calls), history.Only(calls, 7), history.Open(calls), history.Cuts(calls), history.Before(calls[0], calls[1]))
	return said
}

// What is handed in is left as it is, its spare room too.
func TestP13_12ArgumentsAreNotChanged(t *testing.T) {
	list := roomy("shared")
	log, calls := sharedLog(list), sharedCalls(list)
	reversed := slices.Clone(calls)
	slices.Reverse(reversed)
	wantLog, wantCalls, wantReversed := shown(log[:cap(log)]), shown(calls[:cap(calls)]), shown(reversed)
	callAll(log, calls)
	callAll(log, reversed)
	callAll(append(slices.Clip(log), api.Event{}), append(slices.Clip(calls), api.Call{}))
	if string(list[:cap(list)]) != "shared"+strings.Repeat("\x00", 9) {
		t.Errorf("%q", list[:cap(list)])
	}
	isSame(t, "the log", shown(log[:cap(log)]), wantLog)
	isSame(t, "the calls", shown(calls[:cap(calls)]), wantCalls)
	isSame(t, "the calls reversed", shown(reversed), wantReversed)
}

// One list handed in several times becomes lists that share nothing, neither with it nor with one another.
func TestP13_12AnswersAreNewMemory(t *testing.T) {
	list := roomy("shared")
	log, calls := sharedLog(list), sharedCalls(list)
	rooms := slices.Concat(roomOf(list), roomOf(log), roomOf(calls))
	var held []any
	for range 2 {
		folded, _, e := history.Fold(log)
		unfolded, f := history.Unfold(calls)
		parsed, _, g := history.Parse(first(history.Print(calls)))
		order, h := history.Order(calls)
		keys, only, cuts := history.Keys(calls), history.Only(calls, 7), history.Cuts(calls)
		if e != api.OK || f != api.OK || g != api.OK || h != api.OK || len(folded) != 5 || len(unfolded) != 8 || len(parsed) != 5 || len(order) != 2 || len(keys) != 2 || len(only) != 3 {
			t.Fatalf("%d %d %d %d: %+v, %+v, %+v, %v, %v, %v", e, f, g, h, folded, unfolded, parsed, order, keys, only)
		}
		held = append(held, folded, unfolded, parsed, order, keys, only, cuts)
		rooms = slices.Concat(rooms, roomsOfCalls(folded), roomsOfLog(unfolded), roomsOfCalls(parsed), roomOf(order), roomOf(keys), roomOf(only), roomOf(cuts))
	}
	if !apart(rooms) {
		t.Errorf("%d lists, of which some share memory", len(rooms))
	}
	runtime.KeepAlive(held)
	runtime.KeepAlive([]any{list, log, calls})
}

// What is handed in is not kept: it may be written over, and so may what is answered.
func TestP13_12NothingIsKept(t *testing.T) {
	list := roomy("shared")
	want := callAll(sharedLog(list), sharedCalls(list))
	log, calls := sharedLog(roomy("shared")), sharedCalls(roomy("shared"))
	folded, _, _ := history.Fold(log)
	unfolded, _ := history.Unfold(calls)
	wantFolded, wantUnfolded := shown(folded), shown(unfolded)
	spoil(log[0].Req.Old)
	spoil(calls[0].Req.Old)
	clear(log)
	clear(calls)
	isSame(t, "Fold", shown(folded), wantFolded)
	isSame(t, "Unfold", shown(unfolded), wantUnfolded)
	for _, c := range folded {
		spoil(c.Value)
		spoil(c.Req.Value)
		spoil(c.Req.Old)
	}
	for _, e := range unfolded {
		spoil(e.Out.Value)
		spoil(e.Req.Value)
		spoil(e.Req.Old)
	}
	isSame(t, "all", callAll(sharedLog(list), sharedCalls(list)), want)
}

// Empty lists, nil or not, are the same.
func TestEmptyListsAreTheSame(t *testing.T) {
	for _, none := range [][]byte{nil, {}, make([]byte, 0, 9)} {
		pairs := make([]api.Pair, 0, len(none))
		e := ends(0, 1, api.StOK, "")
		e.Out.Value, e.Out.Pairs = none, pairs
		log := []api.Event{begins(0, 1, api.Request{Kind: api.KSet, Value: none, Old: none}), e}
		calls := []api.Call{{Who: 16, Seq: 1, Req: api.Request{Kind: api.KSet, Value: none, Old: none}, End: 1, Status: api.StOK, Value: none}}
		isFolded(t, log, calls...)
		isLike(t, calls)
		isEvent(t, e, true)
		calls[0].End, calls[0].Status = -1, 0
		isLike(t, calls)
		isChecked(t, calls, 0, api.OK)
	}
}
