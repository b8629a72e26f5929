package client_test

import (
	"math"
	"strings"
	"testing"

	"shard/api"
	"shard/client"
)

// isNew holds New against the document.
func isNew(t *testing.T, self api.Addr, hosts, patience, tries int) {
	t.Helper()
	_, want := newDocClient(self, hosts, patience, tries)
	c, e := client.New(self, hosts, patience, tries)
	if e != want || (c == nil) != (want != api.OK) {
		t.Fatalf("New(%d, %d, %d, %d): %v, %d; want %d", self, hosts, patience, tries, c != nil, e, want)
	}
	if e == api.OK && shown(tell(c)) != shown(told{Hints: []api.Segment{{Lo: 0, Hi: top, Host: 0}}}) {
		t.Errorf("New(%d, %d, %d, %d): %+v", self, hosts, patience, tries, tell(c))
	}
}

func TestP12_1New(t *testing.T) {
	for self := range 256 {
		isNew(t, api.Addr(self), 3, 2, 4)
		isNew(t, api.Addr(self), 0, 2, 4)
	}
	odd := []int{math.MinInt, math.MinInt32, -256, -1, 100, 255, 256, 257, 272, 1 << 16, math.MaxInt32, 1 << 32, 1<<32 + 1, math.MaxInt}
	for n := -2; n <= 70; n++ {
		odd = append(odd, n)
	}
	for _, n := range odd {
		isNew(t, 16, n, 2, 4)
		isNew(t, 16, 3, n, 4)
		isNew(t, 16, 3, 2, n)
		isNew(t, 31, n, n, n)
	}
}

// Which client it is changes nothing of what it does.
func TestP12_1AnySelf(t *testing.T) {
	for self := api.Addr(16); self < 32; self++ {
		c, _ := client.New(self, 2, 1, 3)
		isBegun(t, c, get(7), 0)
		isTicks(t, c, 0, 1, -1)
		isOutcome(t, c, api.Outcome{Phase: api.PhUnknown, Seq: 1, Host: 1, Sent: 3})
	}
}

func TestP12_2Begin(t *testing.T) {
	long := strings.Repeat("l", 64)
	for _, r := range []api.Request{
		get(0), get(7), get(top),
		set(0, ""), set(7, "a"), set(top, long),
		del(0), del(top),
		cas(7, "old", "new"), cas(7, "", ""), cas(top, long, long), create(7, ""), create(7, long),
		scan(0, 0, 1), scan(0, top, 16), scan(top, top, 7), scan(7, 8, 1),
	} {
		c := newClient(t, 3, 2, 4)
		isBegun(t, c, r, 0)
		isHints(t, c, api.Segment{Lo: 0, Hi: top, Host: 0})
	}
}

// The numbers count what was begun, however it ended.
func TestP12_2Numbers(t *testing.T) {
	c := newClient(t, 2, 1, 1)
	for n := uint64(1); n < 50; n++ {
		isBegun(t, c, get(n), 0)
		isRefused(t, c, get(1), api.ErrBusy)
		switch n % 3 {
		case 0:
			isErr(t, c.GiveUp(), api.OK)
		case 1:
			isDone(t, c, 1, gotten(n, "v"))
		case 2:
			isTicks(t, c, -1)
		}
		if c.Outcome().Seq != n || c.Outcome().Phase == api.PhWaiting {
			t.Fatalf("request %d: %+v", n, c.Outcome())
		}
		isRefused(t, c, api.Request{}, api.ErrRequest)
	}
}

// wrongs are requests that may not be.
func wrongs() []api.Request {
	long := strings.Repeat("l", 65)
	list := []api.Request{
		{Kind: api.KGet, Hi: 1}, {Kind: api.KGet, Value: []byte{0}}, {Kind: api.KGet, Old: []byte{0}}, {Kind: api.KGet, Has: true}, {Kind: api.KGet, Limit: 1},
		{Kind: api.KDelete, Hi: 1}, {Kind: api.KDelete, Value: []byte{0}}, {Kind: api.KDelete, Old: []byte{0}}, {Kind: api.KDelete, Has: true}, {Kind: api.KDelete, Limit: 1},
		{Kind: api.KSet, Hi: 1}, {Kind: api.KSet, Old: []byte{0}}, {Kind: api.KSet, Has: true}, {Kind: api.KSet, Limit: 1}, set(1, long),
		{Kind: api.KCas, Hi: 1}, {Kind: api.KCas, Old: []byte{0}}, {Kind: api.KCas, Limit: 1}, cas(1, long, ""), cas(1, "", long), create(1, long),
		scan(1, 0, 1), scan(top, 0, 1), scan(0, 1, 0), scan(0, 1, 17), scan(0, 1, 255),
		{Kind: api.KScan, Limit: 1, Value: []byte{0}}, {Kind: api.KScan, Limit: 1, Old: []byte{0}}, {Kind: api.KScan, Limit: 1, Has: true},
	}
	for kind := range 256 {
		k := api.Kind(kind)
		if k >= api.KGet && k <= api.KScan {
			continue
		}
		list = append(list, api.Request{Kind: k}, api.Request{Kind: k, Key: 7}, api.Request{Kind: k, Key: 7, Hi: 9}, api.Request{Kind: k, Value: []byte("v")}, api.Request{Kind: k, Key: 7, Hi: 9, Limit: 1})
	}
	return list
}

func TestP12_2WrongRequests(t *testing.T) {
	fresh, used := newClient(t, 3, 2, 4), waiting(t, 3, 2, 4, cas(5, "o", "n"))
	isDone(t, used, 1, reply(1, api.KCas, api.StDiffers))
	for _, r := range wrongs() {
		isRefused(t, fresh, r, api.ErrRequest)
		isRefused(t, used, r, api.ErrRequest)
	}
	isBegun(t, fresh, get(7), 0)
	isBegun(t, used, get(7), 0)
}

// A request that is under way comes ahead of one that may not be, and is left as it is.
func TestP12_2Busy(t *testing.T) {
	c := newClient(t, 3, 2, 4)
	isBegun(t, c, set(7, "a"), 0)
	isTicks(t, c, -1)
	for _, r := range append(wrongs(), get(7), set(7, "a"), scan(1, 2, 3)) {
		isRefused(t, c, r, api.ErrBusy)
	}
	isTicks(t, c, 0, -1, 1)
}

// A request goes to the hints' owner of its Key, whatever else it names.
func TestP12_2GoesByTheHints(t *testing.T) {
	c := newClient(t, 4, 9, 9)
	isBegun(t, c, get(50), 0)
	isFollowed(t, c, 0, redirect(1, 10, 99, 3))
	isFollowed(t, c, 3, redirect(1, 50, 59, 2))
	isErr(t, c.GiveUp(), api.OK)
	for key, to := range map[uint64]api.Addr{0: 0, 9: 0, 10: 3, 49: 3, 50: 2, 59: 2, 60: 3, 99: 3, 100: 0, top: 0} {
		for _, r := range []api.Request{get(key), set(key, "v"), del(key), cas(key, "a", "b"), scan(key, top, 9), scan(key, key, 9)} {
			isBegun(t, c, r, to)
			isErr(t, c.GiveUp(), api.OK)
		}
	}
}

// What an earlier request had counted is not a next one's.
func TestP12_2CountsBeginAnew(t *testing.T) {
	c := waiting(t, 3, 2, 3, get(7))
	isTicks(t, c, -1, 0, -1)
	isErr(t, c.GiveUp(), api.OK)
	isBegun(t, c, get(8), 0)
	isTicks(t, c, -1, 0, -1, 1, -1, -1)
	isOutcome(t, c, api.Outcome{Phase: api.PhUnknown, Seq: 2, Host: 1, Sent: 3})

	c = waiting(t, 3, 2, 3, get(7))
	isFollowed(t, c, 0, redirect(1, 7, 7, 1))
	isFollowed(t, c, 1, redirect(1, 7, 7, 2))
	isDone(t, c, 2, gotten(1, "v"))
	isBegun(t, c, get(8), 0)
	isFollowed(t, c, 0, redirect(2, 8, 8, 1)) // asked for the one ahead, not for this one
	isFollowed(t, c, 1, redirect(2, 8, 8, 2))
	isOutcome(t, c, api.Outcome{Phase: api.PhWaiting, Seq: 2, Host: 2, Sent: 3, Hops: 2})
}

func TestP12_9Aim(t *testing.T) {
	for hosts := 1; hosts <= mostHosts; hosts++ {
		c := newClient(t, hosts, 2, 4)
		for host := range 256 {
			before, want := shown(tell(c)), api.OK
			if host >= hosts {
				want = api.ErrArg
			}
			isErr(t, c.Aim(api.Addr(host)), want)
			if want != api.OK && shown(tell(c)) != before {
				t.Fatalf("Aim(%d) made %+v of %s", host, tell(c), before)
			}
			if want == api.OK {
				isHints(t, c, api.Segment{Lo: 0, Hi: top, Host: api.Addr(host)})
				isBegun(t, c, get(uint64(host)), api.Addr(host))
				isErr(t, c.Aim(0), api.ErrBusy)
				isErr(t, c.Aim(255), api.ErrBusy)
				isHints(t, c, api.Segment{Lo: 0, Hi: top, Host: api.Addr(host)})
				isErr(t, c.GiveUp(), api.OK)
			}
		}
	}
}

// Nothing but the hints is changed: the outcome and the request stay.
func TestP12_9AimLeavesTheRest(t *testing.T) {
	c := waiting(t, 3, 2, 4, get(7))
	isFollowed(t, c, 0, redirect(1, 5, 9, 2))
	isDone(t, c, 2, gotten(1, "v"))
	want := tell(c)
	want.Hints = []api.Segment{{Lo: 0, Hi: top, Host: 1}}
	isErr(t, c.Aim(1), api.OK)
	if shown(tell(c)) != shown(want) {
		t.Errorf("%+v; want %+v", tell(c), want)
	}
	isBegun(t, c, get(7), 1)
}

// Hints that were full have all their room again.
func TestP12_9AimOfFullHints(t *testing.T) {
	c := newClient(t, 3, 9, 9)
	fill(t, c, mostHints)
	isErr(t, c.Aim(2), api.OK)
	isHints(t, c, api.Segment{Lo: 0, Hi: top, Host: 2})
	isErr(t, c.Aim(0), api.OK)
	fill(t, c, mostHints)
}

// fill gives a client, whose hints are host 0's alone, so many of them: single keys of host 1 from 10 on, and all from some key on if the number is even.
func fill(t *testing.T, c *client.Client, segments int) {
	t.Helper()
	for key := uint64(10); key < 500 && len(c.Hints()) < segments-1; key += 10 {
		isBegun(t, c, get(key), 0)
		isFollowed(t, c, 0, redirect(c.Outcome().Seq, key, key, 1))
		isErr(t, c.GiveUp(), api.OK)
	}
	if len(c.Hints()) < segments {
		isBegun(t, c, get(1<<63), 0)
		isFollowed(t, c, 0, redirect(c.Outcome().Seq, 1<<63, top, 1))
		isErr(t, c.GiveUp(), api.OK)
	}
	if len(c.Hints()) != segments {
		t.Fatalf("%d hints; want %d", len(c.Hints()), segments)
	}
}
