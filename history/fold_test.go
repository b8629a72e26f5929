package history_test

import (
	"slices"
	"testing"

	"shard/api"
	"shard/history"
)

func TestP13_2CallsOfLogs(t *testing.T) {
	isFolded(t, nil)
	isFolded(t, []api.Event{})
	isFolded(t, []api.Event{asks(0, 1), hears(0, 1, api.StOK)})
	isFolded(t, []api.Event{begins(0, 1, set(5, "v")), begins(1, 1, get(5)), ends(1, 1, api.StOK, "v"), givesUp(0, 1)},
		open(0, 1, set(5, "v"), 0), call(1, 1, get(5), 1, 2, api.StOK, "v"))
	// Those that are open at the end; places count the admin's events too.
	isFolded(t, []api.Event{asks(0, 1), begins(3, 9, cas(5, "a", "b")), hears(0, 1, api.StOK), begins(4, 1, del(6)), ends(3, 9, api.StDiffers, ""), begins(3, 10, get(1))},
		call(3, 9, cas(5, "a", "b"), 1, 4, api.StDiffers, ""), open(4, 1, del(6), 3), open(3, 10, get(1), 5))
	// Calls come by their begins, not by their ends.
	isFolded(t, []api.Event{begins(1, 1, get(5)), begins(0, 1, get(6)), ends(0, 1, api.StMissing, ""), ends(1, 1, api.StOK, "")},
		call(1, 1, get(5), 0, 3, api.StOK, ""), call(0, 1, get(6), 1, 2, api.StMissing, ""))
	// Of a scan only that it ended is kept.
	isFolded(t, []api.Event{begins(0, 1, scan(5, 20, 2)), scanEnds(0, 1, 20, 5, 9)}, done(0, 1, scan(5, 20, 2), 0, 1))
	// Numbers may be left out, and be as great as they can.
	isFolded(t, []api.Event{begins(0, 7, get(5)), givesUp(0, 7), begins(0, top, get(5)), givesUp(0, top)}, open(0, 7, get(5), 0), open(0, top, get(5), 2))
}

func TestP13_2StepsAreNotLookedAt(t *testing.T) {
	log := []api.Event{at(9, begins(0, 1, get(5))), at(3, ends(0, 1, api.StOK, "v")), at(3, begins(0, 2, get(5)))}
	isFolded(t, log, call(0, 1, get(5), 0, 1, api.StOK, "v"), open(0, 2, get(5), 2))
}

func TestP13_2EventsThatDoNotFollow(t *testing.T) {
	late := ends(0, 1, api.StOK, "")
	late.Out.Phase = api.PhWaiting
	for _, c := range []struct {
		log   []api.Event
		place int
		err   api.Errno
	}{
		{[]api.Event{begins(0, 1, get(5)), begins(0, 2, get(5))}, 1, api.ErrMatch},
		{[]api.Event{begins(0, 2, get(5)), givesUp(0, 2), begins(0, 2, get(5))}, 2, api.ErrMatch},
		{[]api.Event{begins(0, 2, get(5)), givesUp(0, 2), begins(0, 1, get(5))}, 2, api.ErrMatch},
		{[]api.Event{begins(0, 2, get(5)), ends(0, 2, api.StMissing, ""), begins(0, 2, get(5))}, 2, api.ErrMatch},
		{[]api.Event{begins(0, top, get(5)), givesUp(0, top), begins(0, 1, get(5))}, 2, api.ErrMatch},
		{[]api.Event{ends(0, 1, api.StOK, "")}, 0, api.ErrMatch},
		{[]api.Event{late}, 0, api.ErrEvent},
		{[]api.Event{begins(0, 1, del(5)), ends(0, 1, api.StDiffers, "")}, 1, api.ErrMatch},
		{[]api.Event{begins(0, 1, get(5)), ends(0, 2, api.StOK, "")}, 1, api.ErrMatch},
		{[]api.Event{begins(0, 2, get(5)), ends(0, 1, api.StOK, "")}, 1, api.ErrMatch},
		{[]api.Event{begins(0, 1, get(5)), ends(1, 1, api.StOK, "")}, 1, api.ErrMatch},
		{[]api.Event{begins(0, 1, get(5)), ends(0, 1, api.StOK, ""), ends(0, 1, api.StOK, "")}, 2, api.ErrMatch},
		{[]api.Event{begins(0, 1, get(5)), ends(0, 1, api.StOK, ""), givesUp(0, 1)}, 2, api.ErrMatch},
		{[]api.Event{begins(0, 1, get(5)), givesUp(0, 1), ends(0, 1, api.StOK, "")}, 2, api.ErrMatch},
		{[]api.Event{begins(0, 1, get(5)), givesUp(0, 1), givesUp(0, 1)}, 2, api.ErrMatch},
		{[]api.Event{begins(0, 1, get(5)), givesUp(0, 2)}, 1, api.ErrMatch},
		{[]api.Event{begins(0, 2, get(5)), givesUp(0, 1)}, 1, api.ErrMatch},
		{[]api.Event{begins(0, 1, get(5)), givesUp(1, 1)}, 1, api.ErrMatch},
		{[]api.Event{givesUp(0, 1)}, 0, api.ErrMatch},
		// The first at fault is told, whichever its fault.
		{[]api.Event{givesUp(0, 3), {}}, 0, api.ErrMatch},
		{[]api.Event{{}, givesUp(0, 3)}, 0, api.ErrEvent},
		{[]api.Event{begins(0, 1, get(5)), {}, givesUp(0, 1)}, 1, api.ErrEvent},
		{[]api.Event{asks(0, 1), hears(0, 1, api.StMissing)}, 1, api.ErrEvent},
		{[]api.Event{asks(0, 1), asks(16, 1)}, 1, api.ErrEvent},
		// Of one event: that it may not be comes ahead of that it does not follow.
		{[]api.Event{begins(0, 1, get(5)), begins(0, 1, api.Request{})}, 1, api.ErrEvent},
		{[]api.Event{at(-1, givesUp(0, 3))}, 0, api.ErrEvent},
	} {
		isUnfoldable(t, c.log, c.place, c.err)
	}
}

// The admin's events follow always: the same one again, an answer ahead of its question.
func TestP13_2TheAdminsEventsFollow(t *testing.T) {
	log := []api.Event{hears(3, 4, api.StMany), asks(0, 1), asks(0, 1), begins(0, 1, get(5)), asks(0, 1), hears(1, 1, api.StOK), givesUp(0, 1), hears(1, 1, api.StOK)}
	isFolded(t, log, open(0, 1, get(5), 3))
}

// All clients may have a call open at once, and each has numbers of its own.
func TestP13_2ClientsAreApart(t *testing.T) {
	var log []api.Event
	var want []api.Call
	for n := range 16 {
		log = append(log, begins(n, uint64(20-n), get(uint64(n))))
		want = append(want, call(n, uint64(20-n), get(uint64(n)), n, 31-n, api.StOK, "v"))
	}
	for n := 15; n >= 0; n-- {
		log = append(log, ends(n, uint64(20-n), api.StOK, "v"))
	}
	isFolded(t, log, want...)
}

func TestP13_2AnswersThatFit(t *testing.T) {
	requests := []api.Request{get(5), set(5, "v"), del(5), cas(5, "a", "b"), create(5, "b"), scan(0, 9, 2)}
	fine := 0
	for _, r := range requests {
		for status := api.StOK; status <= api.StNoCredit; status++ {
			for _, value := range []string{"", "v"} {
				for _, e := range []api.Event{scanEnds(0, 1, 0), scanEnds(0, 1, 0, 0), scanEnds(0, 1, 7), scanEnds(0, 1, 7, 6)} {
					e.Out.Status, e.Out.Value = status, []byte(value)
					log := []api.Event{begins(0, 1, r), e}
					if !docFits(r, e.Out) {
						isUnfoldable(t, log, 1, api.ErrMatch)
						continue
					}
					fine++
					isFolded(t, log, call(0, 1, r, 0, 1, status, value))
				}
			}
		}
	}
	// get ok with and without a value, missing; set 2, delete 2, cas 3 and 3; a scan's four.
	if fine != 3+2+2+3+3+4 {
		t.Errorf("%d answers fit", fine)
	}
}

func TestP13_2AnswersToScans(t *testing.T) {
	for _, c := range []struct {
		hi   uint64
		keys []uint64
		fits bool
	}{
		{5, nil, true}, {20, nil, true}, {4, nil, false}, {21, nil, false}, {0, nil, false}, {top, nil, false},
		{5, []uint64{5}, true}, {20, []uint64{5, 20}, true}, {20, []uint64{4}, false}, {20, []uint64{4, 5}, false}, {20, []uint64{0}, false},
		{20, []uint64{5, 6, 7}, false}, {20, []uint64{19, 20}, true},
	} {
		r := scan(5, 20, 2)
		log := []api.Event{begins(0, 1, r), scanEnds(0, 1, c.hi, c.keys...)}
		if c.fits {
			isFolded(t, log, done(0, 1, r, 0, 1))
		} else {
			isUnfoldable(t, log, 1, api.ErrMatch)
		}
	}
	var keys []uint64
	for key := range uint64(16) {
		keys = append(keys, key)
	}
	isFolded(t, []api.Event{begins(0, 1, scan(0, top, 16)), scanEnds(0, 1, top, keys...)}, done(0, 1, scan(0, top, 16), 0, 1))
	isUnfoldable(t, []api.Event{begins(0, 1, scan(0, top, 15)), scanEnds(0, 1, top, keys...)}, 1, api.ErrMatch)
}

// isLikeFold holds what a log folds to against the document's.
func isLikeFold(t *testing.T, log []api.Event) api.Errno {
	t.Helper()
	calls, place, e := history.Fold(log)
	want, wantPlace, wantErr := docFold(log)
	if shown(calls) != shown(want) || place != wantPlace || e != wantErr {
		t.Fatalf("Fold(%+v): %+v, %d, %d; want %+v, %d, %d", log, calls, place, e, want, wantPlace, wantErr)
	}
	return e
}

// All logs of some events.
func TestP13_2AllShortLogs(t *testing.T) {
	events := []api.Event{begins(0, 1, get(5)), begins(0, 2, del(5)), begins(1, 1, get(5)), ends(0, 1, api.StOK, "v"), ends(0, 2, api.StOK, ""), ends(1, 1, api.StMissing, ""), givesUp(0, 1), givesUp(0, 2), givesUp(1, 1), asks(0, 1)}
	var log []api.Event
	var add func(left int)
	fine := 0
	add = func(left int) {
		if isLikeFold(t, log) != api.OK || left == 0 {
			return
		}
		fine++
		for _, e := range events {
			log = append(log, e)
			add(left - 1)
			log = log[:len(log)-1]
		}
	}
	add(7)
	if fine < 500 {
		t.Errorf("%d logs", fine)
	}
}

func TestP13_2RandomLogs(t *testing.T) {
	counts := map[api.Errno]int{}
	for seed := range 1200 {
		d := diceOf(seed)
		log := d.log(1 + d.Intn(40))
		if isLikeFold(t, log) != api.OK {
			t.Fatalf("%+v", log)
		}
		for range 3 {
			spoiled := slices.Clone(log)
			d.spoilEvent(&spoiled[d.Intn(len(spoiled))])
			counts[isLikeFold(t, spoiled)]++
			i := d.Intn(len(log))
			isLikeFold(t, append(slices.Clone(log[:i]), log[i+1:]...))
		}
	}
	if counts[api.OK] < 500 || counts[api.ErrEvent] < 200 || counts[api.ErrMatch] < 200 {
		t.Errorf("%v", counts)
	}
}
