package client_test

import (
	"testing"

	"shard/api"
)

func seg(lo, hi uint64, host api.Addr) api.Segment { return api.Segment{Lo: lo, Hi: hi, Host: host} }

func TestP12_6ExampleTwo(t *testing.T) {
	c := waiting(t, 3, 2, 4, get(7))
	isFollowed(t, c, 0, redirect(1, 5, 9, 2))
	isHints(t, c, seg(0, 4, 0), seg(5, 9, 2), seg(10, top, 0))
	isOutcome(t, c, api.Outcome{Phase: api.PhWaiting, Seq: 1, Host: 2, Sent: 2, Hops: 1})
	isHeard(t, c, 2, redirect(1, 0, 9, 0))
	isHints(t, c, seg(0, top, 0))
	isTicks(t, c, -1, 2)
}

func TestP12_4ExampleThree(t *testing.T) {
	c := waiting(t, 3, 2, 4, get(7))
	isStray(t, c, 1, redirect(1, 5, 9, 2))
	isStray(t, c, 0, redirect(1, 5, 6, 2))
	isStray(t, c, 0, redirect(1, 8, 9, 2))
	isStray(t, c, 0, redirect(1, 5, 9, 0))
	isStray(t, c, 0, redirect(1, 5, 9, 3))
	isStray(t, c, 0, redirect(1, 5, 9, 15))
	isStray(t, c, 0, redirect(1, 5, 9, 16))
	isHints(t, c, seg(0, top, 0))
	isFollowed(t, c, 0, redirect(1, 7, 7, 2))
}

// Of every sender and every host named, at each host asked.
func TestP12_4RedirectsOfAllHosts(t *testing.T) {
	for hosts := 1; hosts <= mostHosts; hosts++ {
		for at := range hosts {
			for from := range hosts + 1 {
				for to := range hosts + 1 {
					c := newClient(t, hosts, 2, 4)
					isErr(t, c.Aim(api.Addr(at)), api.OK)
					isBegun(t, c, get(7), api.Addr(at))
					m := redirect(1, 0, 9, api.Addr(to))
					if from == at && to != at && to < hosts {
						isFollowed(t, c, api.Addr(from), m)
					} else {
						isStray(t, c, api.Addr(from), m)
					}
				}
			}
		}
	}
}

// The request's key must lie in the range that a redirect names; a scan's Hi need not.
func TestP12_4RedirectsByRange(t *testing.T) {
	for _, key := range []uint64{0, 1, 7, 1 << 63, top - 1, top} {
		for _, lo := range []uint64{0, 1, 6, 7, 8, 1 << 63, top - 1, top} {
			for _, hi := range []uint64{0, 1, 6, 7, 8, 1 << 63, top - 1, top} {
				for _, r := range []api.Request{get(key), set(key, "v"), scan(key, top, 3), scan(key, key, 3)} {
					c := waiting(t, 2, 2, 4, r)
					if lo <= key && key <= hi {
						isFollowed(t, c, 0, redirect(1, lo, hi, 1))
						isHints(t, c, joined([]api.Segment{seg(0, top, 0), seg(lo, hi, 1)})...)
					} else {
						isStray(t, c, 0, redirect(1, lo, hi, 1))
					}
				}
			}
		}
	}
}

// Behind a try that turned to another host the one asked before is not heard any more, and the new one is.
func TestP12_4RedirectsOfTheHostAskedAlone(t *testing.T) {
	c := waiting(t, 4, 1, 9, get(7))
	isTicks(t, c, 0, 1)
	isStray(t, c, 0, redirect(1, 7, 7, 3))
	isFollowed(t, c, 1, redirect(1, 7, 7, 3))
	isStray(t, c, 1, redirect(1, 7, 7, 2))
	isFollowed(t, c, 3, redirect(1, 7, 7, 0))
	isStray(t, c, 3, redirect(1, 7, 7, 2))
}

// A host is not asked twice between two tries: neither the one of the try nor one to whom a redirect led.
func TestP12_6NobodyIsAskedTwice(t *testing.T) {
	c := waiting(t, 5, 2, 9, get(7))
	isFollowed(t, c, 0, redirect(1, 7, 7, 3))
	isHeard(t, c, 3, redirect(1, 7, 7, 0))
	isFollowed(t, c, 3, redirect(1, 7, 7, 1))
	isHeard(t, c, 1, redirect(1, 7, 7, 0))
	isHeard(t, c, 1, redirect(1, 7, 7, 3))
	isFollowed(t, c, 1, redirect(1, 7, 7, 4))
	isFollowed(t, c, 4, redirect(1, 7, 7, 2))
	for _, host := range []api.Addr{0, 1, 3, 4} {
		isHeard(t, c, 2, redirect(1, 7, 7, host))
		isHints(t, c, joined([]api.Segment{seg(0, top, 0), seg(7, 7, host)})...)
	}
}

// At each try all is forgotten, but for the host of the try.
func TestP12_6TriesForgetWhoWasAsked(t *testing.T) {
	c := waiting(t, 3, 1, 9, get(7))
	isFollowed(t, c, 0, redirect(1, 7, 7, 1))
	isFollowed(t, c, 1, redirect(1, 7, 7, 2))
	isTicks(t, c, 2) // the same host again
	isFollowed(t, c, 2, redirect(1, 7, 7, 1))
	isHeard(t, c, 1, redirect(1, 7, 7, 2))
	isFollowed(t, c, 1, redirect(1, 7, 7, 0))
	isTicks(t, c, 0, 1) // and the next one
	isFollowed(t, c, 1, redirect(1, 7, 7, 0))
	isHeard(t, c, 0, redirect(1, 7, 7, 1))
	isFollowed(t, c, 0, redirect(1, 7, 7, 2))
	isHeard(t, c, 2, redirect(1, 7, 7, 0))
	isOutcome(t, c, api.Outcome{Phase: api.PhWaiting, Seq: 1, Host: 2, Sent: 10, Hops: 6})
}

// Of several redirects that came to nothing, the time-out goes to the host asked, not to the one that was named.
func TestP12_6HeardRedirectsChangeHintsAlone(t *testing.T) {
	c := waiting(t, 3, 2, 9, get(7))
	isFollowed(t, c, 0, redirect(1, 7, 7, 1))
	isTicks(t, c, -1)
	isHeard(t, c, 1, redirect(1, 0, top, 0))
	isHints(t, c, seg(0, top, 0))
	isTicks(t, c, 1, -1)
	isFollowed(t, c, 1, redirect(1, 0, 7, 0))
	isHeard(t, c, 0, redirect(1, 7, 9, 1))
	isHints(t, c, seg(0, 6, 0), seg(7, 9, 1), seg(10, top, 0))
	isErr(t, c.GiveUp(), api.OK)
	isBegun(t, c, get(7), 1)
}

// With one host alone no redirect can be followed.
func TestP12_6OneHost(t *testing.T) {
	c := waiting(t, 1, 1, 4, get(7))
	isStray(t, c, 0, redirect(1, 0, top, 0))
	isStray(t, c, 0, redirect(1, 0, top, 1))
	isTicks(t, c, 0, 0, 0, -1)
}

// What redirects said is kept over requests, and later ones hold.
func TestP12_6HintsAreRemembered(t *testing.T) {
	c := newClient(t, 4, 9, 9)
	for i, x := range []struct {
		lo, hi   uint64
		at, host api.Addr
		want     []api.Segment
	}{
		{100, 199, 0, 1, []api.Segment{seg(0, 99, 0), seg(100, 199, 1), seg(200, top, 0)}},
		{200, 299, 0, 1, []api.Segment{seg(0, 99, 0), seg(100, 299, 1), seg(300, top, 0)}},
		{150, 250, 1, 2, []api.Segment{seg(0, 99, 0), seg(100, 149, 1), seg(150, 250, 2), seg(251, 299, 1), seg(300, top, 0)}},
		{0, 120, 0, 3, []api.Segment{seg(0, 120, 3), seg(121, 149, 1), seg(150, 250, 2), seg(251, 299, 1), seg(300, top, 0)}},
		{120, top, 3, 1, []api.Segment{seg(0, 119, 3), seg(120, top, 1)}},
		{0, top, 3, 2, []api.Segment{seg(0, top, 2)}},
	} {
		isBegun(t, c, get(x.lo), x.at)
		isFollowed(t, c, x.at, redirect(uint64(i+1), x.lo, x.hi, x.host))
		isHints(t, c, x.want...)
		isDone(t, c, x.host, reply(uint64(i+1), api.KGet, api.StMissing))
	}
}

// The hints have room for 64 segments; what does not go in is not remembered, but followed all the same.
func TestP12_6FullHints(t *testing.T) {
	for _, n := range []int{mostHints - 1, mostHints} {
		c := newClient(t, 3, 1, 9)
		fill(t, c, n)
		full := shown(c.Hints())
		isBegun(t, c, get(5), 0)
		seq := c.Outcome().Seq
		isFollowed(t, c, 0, redirect(seq, 5, 6, 2)) // it costs two
		if shown(c.Hints()) != full {
			t.Errorf("%d hints: %v", n, c.Hints())
		}
		isHeard(t, c, 2, redirect(seq, 4, 6, 0)) // it costs nothing
		isTicks(t, c, 2)
		isFollowed(t, c, 2, redirect(seq, 0, 5, 1)) // it costs one
		if got := len(c.Hints()); got != mostHints {
			t.Errorf("%d hints became %d", n, got)
		}
		if remembers := c.Hints()[0] == seg(0, 5, 1); remembers != (n < mostHints) {
			t.Errorf("%d hints: %v", n, c.Hints()[:2])
		}
		isTicks(t, c, 1)
		isFollowed(t, c, 1, redirect(seq, 0, 10, 2)) // it sets free
		if got := c.Hints(); len(got) != n-1 || got[0] != seg(0, 10, 2) || got[1] != seg(11, 19, 0) {
			t.Errorf("%d hints became %v", n, got)
		}
	}
}

// A redirect that costs nothing, or less, goes in where there is no room left.
func TestP12_6FullHintsThatStayFull(t *testing.T) {
	c := newClient(t, 3, 1, 9)
	fill(t, c, mostHints)
	isBegun(t, c, get(10), 1)
	isFollowed(t, c, 1, redirect(c.Outcome().Seq, 10, 10, 2))
	if got := c.Hints(); len(got) != mostHints || got[1] != seg(10, 10, 2) {
		t.Errorf("%v", got)
	}
	isHeard(t, c, 2, redirect(c.Outcome().Seq, 10, 10, 1))
	isTicks(t, c, 2)
	isFollowed(t, c, 2, redirect(c.Outcome().Seq, 10, 11, 1)) // a boundary moves
	if got := c.Hints(); len(got) != mostHints || got[1] != seg(10, 11, 1) {
		t.Errorf("%v", got)
	}
	isFollowed(t, c, 1, redirect(c.Outcome().Seq, 10, 11, 0))
	if got := c.Hints(); len(got) != mostHints-2 || got[0] != seg(0, 19, 0) {
		t.Errorf("%v", got)
	}
}
