package client_test

import (
	"runtime"
	"slices"
	"strings"
	"testing"

	"shard/api"
	"shard/client"
)

// roomy gives bytes with spare room behind them.
func roomy(s string) []byte { return append(make([]byte, 0, len(s)+9), s...) }

// What is handed in is left as it is, its spare room too.
func TestP12_12ArgumentsAreNotChanged(t *testing.T) {
	value, old := roomy("value"), roomy("old")
	pairs := append(make([]api.Pair, 0, 9), api.Pair{Key: 7, Value: value}, api.Pair{Key: 8, Value: old})
	isOwn := func() {
		t.Helper()
		if string(value[:cap(value)]) != "value"+strings.Repeat("\x00", 9) || string(old[:cap(old)]) != "old"+strings.Repeat("\x00", 9) {
			t.Fatalf("%q, %q", value[:cap(value)], old[:cap(old)])
		}
		if shown(pairs[:9]) != shown(append([]api.Pair{{Key: 7, Value: value}, {Key: 8, Value: old}}, make([]api.Pair, 7)...)) {
			t.Fatalf("%v", pairs[:9])
		}
	}
	c := newClient(t, 2, 1, 4)
	c.Begin(api.Request{Kind: api.KCas, Key: 7, Has: true, Old: old, Value: value})
	isOwn()
	c.Tick()
	c.GiveUp()
	c.Begin(get(7))
	m := gotten(2, "")
	m.Value = value
	c.Take(0, m)
	tell(c)
	isOwn()
	c.Begin(scan(7, 9, 3))
	m = scanned(3, 9)
	m.Pairs = pairs
	c.Take(0, m)
	tell(c)
	isOwn()
	isOutcome(t, c, api.Outcome{Phase: api.PhDone, Seq: 3, Status: api.StOK, Pairs: pairs, Hi: 9, Sent: 1})
}

// What is handed in is not kept: it may be written over.
func TestP12_12ArgumentsAreNotKept(t *testing.T) {
	c := newClient(t, 2, 1, 4)
	r := cas(7, "old", "value")
	c.Begin(r)
	spoil(r.Old)
	spoil(r.Value)
	if shown(c.Request()) != shown(cas(7, "old", "value")) {
		t.Errorf("%+v", c.Request())
	}
	isTicks(t, c, 0)
	isFollowed(t, c, 0, redirect(1, 7, 7, 1))
	c.GiveUp()
	c.Begin(get(7))
	m := gotten(2, "value")
	c.Take(0, m)
	spoil(m.Value)
	if string(c.Outcome().Value) != "value" {
		t.Errorf("%+v", c.Outcome())
	}
	c.Begin(scan(7, 9, 3))
	m = scanned(3, 9, 7, 8)
	c.Take(0, m)
	spoilPairs(m.Pairs)
	if shown(c.Outcome().Pairs) != shown(scanned(3, 9, 7, 8).Pairs) {
		t.Errorf("%+v", c.Outcome())
	}
}

// talk lets a client do all that it can, with one list under several names handed in; each is called with what each call answers.
func talk(c *client.Client, shared []byte, each func(outs []api.Out)) {
	say := func(outs []api.Out, _ api.Errno) { each(outs) }
	say(c.Begin(api.Request{Kind: api.KCas, Key: 7, Has: true, Old: shared, Value: shared[1:]}))
	each(c.Tick())
	say(c.Take(0, redirect(1, 5, 9, 1)))
	say(c.Take(1, redirect(1, 7, 7, 2)))
	say(c.Take(2, redirect(1, 7, 7, 0)))
	each(c.Tick())
	c.GiveUp()
	say(c.Begin(api.Request{Kind: api.KSet, Key: 7, Value: shared}))
	each(c.Tick())
	each(c.Tick())
	say(c.Take(0, reply(2, api.KSet, api.StOK)))
	say(c.Begin(get(9)))
	m := gotten(3, "")
	m.Value = shared
	say(c.Take(0, m))
	say(c.Begin(scan(7, 9, 3)))
	m = scanned(4, 9)
	m.Pairs = []api.Pair{{Key: 7, Value: shared}, {Key: 8, Value: shared[:2]}, {Key: 9, Value: shared}}
	say(c.Take(0, m))
	c.Aim(2)
	each(nil)
}

// One list handed in several times becomes lists that share nothing, neither with it nor with one another.
func TestP12_12AnswersAreNewMemory(t *testing.T) {
	c, shared := newClient(t, 3, 1, 9), []byte("shared")
	held := []any{shared}
	rooms := roomOf(shared)
	count := 0
	talk(c, shared, func(outs []api.Out) {
		a, b := tell(c), tell(c)
		held = append(held, outs, a, b)
		rooms = slices.Concat(rooms, roomsOfOuts(outs), roomsOfTold(a), roomsOfTold(b))
		count += len(outs)
	})
	if count != 10 || !apart(rooms) {
		t.Errorf("%d messages, %d lists, of which some share memory", count, len(rooms))
	}
	runtime.KeepAlive(held)
}

// To write into an answer is seen by nothing else.
func TestP12_12AnswersMayBeWrittenInto(t *testing.T) {
	var want []string
	c := newClient(t, 3, 1, 9)
	talk(c, []byte("shared"), func(outs []api.Out) { want = append(want, shown(outs)+shown(tell(c))) })
	c = newClient(t, 3, 1, 9)
	i := 0
	talk(c, []byte("shared"), func(outs []api.Out) {
		s := tell(c)
		if got := shown(outs) + shown(s); got != want[i] {
			t.Errorf("answer %d: %s; want %s", i, got, want[i])
		}
		i++
		spoilOuts(outs)
		spoilTold(s)
	})
}

// Two clients know nothing of each other.
func TestR5ClientsAreApart(t *testing.T) {
	one, two := waiting(t, 3, 1, 4, get(7)), waiting(t, 3, 1, 4, get(7))
	before := shown(tell(two))
	isFollowed(t, one, 0, redirect(1, 5, 9, 1))
	isTicks(t, one, 1, 2)
	isDone(t, one, 1, gotten(1, "v"))
	if shown(tell(two)) != before {
		t.Errorf("%+v; want %s", tell(two), before)
	}
	isTicks(t, two, 0, 1)
}
