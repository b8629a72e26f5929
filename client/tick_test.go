package client_test

import (
	"testing"

	"shard/api"
	"shard/client"
)

func TestP12_3ExampleOne(t *testing.T) {
	c := waiting(t, 3, 2, 4, get(7))
	isTicks(t, c, -1, 0, -1, 1, -1, 1, -1)
	isOutcome(t, c, api.Outcome{Phase: api.PhWaiting, Seq: 1, Host: 1, Sent: 4})
	isTicks(t, c, -1)
	isOutcome(t, c, api.Outcome{Phase: api.PhUnknown, Seq: 1, Host: 1, Sent: 4})
	isTicks(t, c, -1, -1, -1)
	isOutcome(t, c, api.Outcome{Phase: api.PhUnknown, Seq: 1, Host: 1, Sent: 4})
}

// Nothing comes: every host is asked twice, one behind the other, from whichever on.
func TestP12_3TurnsThroughTheHosts(t *testing.T) {
	for hosts := 1; hosts <= mostHosts; hosts++ {
		for first := range hosts {
			c := newClient(t, hosts, 1, 64)
			isErr(t, c.Aim(api.Addr(first)), api.OK)
			isBegun(t, c, get(7), api.Addr(first))
			for n := 1; n < 64; n++ {
				isTicks(t, c, (first+n/2)%hosts)
				isOutcome(t, c, api.Outcome{Phase: api.PhWaiting, Seq: 1, Host: api.Addr((first + n/2) % hosts), Sent: n + 1})
			}
			isTicks(t, c, -1, -1)
			isOutcome(t, c, api.Outcome{Phase: api.PhUnknown, Seq: 1, Host: api.Addr((first + 31) % hosts), Sent: 64})
			isHints(t, c, api.Segment{Lo: 0, Hi: top, Host: api.Addr(first)})
		}
	}
}

// With nothing coming a request ends behind just patience times tries ticks, and was sent as often as there are tries.
func TestP12_10Bounds(t *testing.T) {
	for _, hosts := range []int{1, 2, 5, 16} {
		for _, patience := range []int{1, 2, 3, 7, 63, 64} {
			for _, tries := range []int{1, 2, 3, 4, 5, 63, 64} {
				c := waiting(t, hosts, patience, tries, get(7))
				sent := 1
				for n := 1; n < patience*tries; n++ {
					got := c.Tick()
					if (len(got) == 1) != (n%patience == 0) || len(got) > 1 {
						t.Fatalf("%d hosts, %d, %d: tick %d: %v", hosts, patience, tries, n, got)
					}
					sent += len(got)
					if o := c.Outcome(); o.Phase != api.PhWaiting || o.Sent != sent {
						t.Fatalf("%d hosts, %d, %d: tick %d: %+v", hosts, patience, tries, n, o)
					}
				}
				isTicks(t, c, -1)
				if o := c.Outcome(); o.Phase != api.PhUnknown || o.Sent != tries || sent != tries || o.Hops != 0 {
					t.Fatalf("%d hosts, %d, %d: %+v", hosts, patience, tries, o)
				}
			}
		}
	}
}

// However many redirects are followed, the tries are no more; and between two tries they are at most hosts - 1.
func TestP12_10BoundsWithRedirects(t *testing.T) {
	for hosts := 1; hosts <= mostHosts; hosts++ {
		c := waiting(t, hosts, 1, 9, get(7))
		for try := 1; try <= 9; try++ {
			followed := 0
			for range 3 {
				for host := range hosts {
					at := c.Outcome().Host
					if api.Addr(host) == at {
						continue
					}
					got, e := c.Take(at, redirect(1, 7, 7, api.Addr(host)))
					isErr(t, e, api.OK)
					followed += len(got)
				}
			}
			o := c.Outcome()
			if followed != hosts-1 || o.Hops != try*(hosts-1) || o.Sent-o.Hops != try {
				t.Fatalf("%d hosts, try %d: %d followed, %+v", hosts, try, followed, o)
			}
			c.Tick()
		}
		if o := c.Outcome(); o.Phase != api.PhUnknown || o.Sent-o.Hops != 9 {
			t.Fatalf("%d hosts: %+v", hosts, o)
		}
	}
}

// The ticks are counted from the last sending on, whatever it was.
func TestP12_3TicksSinceTheLastSending(t *testing.T) {
	c := waiting(t, 3, 3, 9, get(7))
	isTicks(t, c, -1, -1, 0, -1, -1)
	isFollowed(t, c, 0, redirect(1, 7, 7, 2))
	isTicks(t, c, -1, -1, 2, -1, -1, 0)
}

// What is refused or brings no sending leaves the ticks as they were.
func TestP12_3TicksThatNothingTakesBack(t *testing.T) {
	c := waiting(t, 3, 3, 9, get(7))
	isFollowed(t, c, 0, redirect(1, 7, 7, 1))
	isTicks(t, c, -1)
	isHeard(t, c, 1, redirect(1, 7, 7, 0))
	isTicks(t, c, -1)
	isStray(t, c, 2, redirect(1, 7, 7, 1))
	isStray(t, c, 1, gotten(2, "v"))
	isRefused(t, c, get(1), api.ErrBusy)
	isErr(t, c.Aim(1), api.ErrBusy)
	isTicks(t, c, 1)
}

// A redirect that is followed begins the count of time-outs anew; one that is not followed does not.
func TestP12_3TimeOutsSinceTheLastChangeOfHost(t *testing.T) {
	c := waiting(t, 4, 1, 20, get(7))
	isTicks(t, c, 0)
	isFollowed(t, c, 0, redirect(1, 7, 7, 3))
	isTicks(t, c, 3, 0, 0, 1, 1)
	isFollowed(t, c, 1, redirect(1, 7, 7, 2))
	isHeard(t, c, 2, redirect(1, 7, 7, 1))
	isTicks(t, c, 2)
	isFollowed(t, c, 2, redirect(1, 7, 7, 1))
	isHeard(t, c, 1, redirect(1, 7, 7, 2))
	isTicks(t, c, 1)
	isStray(t, c, 1, redirect(1, 7, 7, 1))
	isTicks(t, c, 2)
}

// The time-out at which a request ends sends nothing, even where it would be the next host's turn.
func TestP12_3TheLastTimeOut(t *testing.T) {
	for tries := 1; tries <= 5; tries++ {
		c := waiting(t, 3, 1, tries, get(7))
		for n := 1; n < tries; n++ {
			isTicks(t, c, n/2)
		}
		isTicks(t, c, -1)
		isOutcome(t, c, api.Outcome{Phase: api.PhUnknown, Seq: 1, Host: api.Addr((tries - 1) / 2), Sent: tries})
		isStray(t, c, 0, gotten(1, "late"))
		isStray(t, c, api.Addr((tries-1)/2), redirect(1, 7, 7, 2))
	}
}

// Redirects that are followed are no tries.
func TestP12_3RedirectsAreNoTries(t *testing.T) {
	c := waiting(t, 3, 1, 2, get(7))
	isFollowed(t, c, 0, redirect(1, 7, 7, 1))
	isFollowed(t, c, 1, redirect(1, 7, 7, 2))
	isTicks(t, c, 2)
	isFollowed(t, c, 2, redirect(1, 7, 7, 1))
	isTicks(t, c, -1)
	isOutcome(t, c, api.Outcome{Phase: api.PhUnknown, Seq: 1, Host: 1, Sent: 5, Hops: 3})
}

func TestP12_3NothingUnderWay(t *testing.T) {
	idle, done, gone := newClient(t, 3, 1, 4), waiting(t, 3, 1, 4, get(7)), waiting(t, 3, 1, 4, get(7))
	isDone(t, done, 0, gotten(1, "v"))
	isErr(t, gone.GiveUp(), api.OK)
	for _, c := range []*client.Client{idle, done, gone} {
		before := shown(tell(c))
		isTicks(t, c, -1, -1, -1, -1, -1, -1)
		if shown(tell(c)) != before {
			t.Errorf("%+v; want %s", tell(c), before)
		}
		isBegun(t, c, get(8), 0)
		isTicks(t, c, 0, 1)
	}
}

func TestP12_7GiveUp(t *testing.T) {
	c := newClient(t, 3, 2, 4)
	isErr(t, c.GiveUp(), api.ErrIdle)
	isOutcome(t, c, api.Outcome{})
	isBegun(t, c, get(7), 0)
	isFollowed(t, c, 0, redirect(1, 0, 9, 1))
	isErr(t, c.GiveUp(), api.OK)
	isOutcome(t, c, api.Outcome{Phase: api.PhUnknown, Seq: 1, Host: 1, Sent: 2, Hops: 1})
	before := shown(tell(c))
	isErr(t, c.GiveUp(), api.ErrIdle)
	isTicks(t, c, -1, -1, -1)
	isStray(t, c, 1, gotten(1, "v"))
	isStray(t, c, 1, redirect(1, 0, 9, 2))
	if shown(tell(c)) != before {
		t.Errorf("%+v; want %s", tell(c), before)
	}
	isBegun(t, c, get(7), 1)
	isDone(t, c, 1, gotten(2, "v"))
	before = shown(tell(c))
	isErr(t, c.GiveUp(), api.ErrIdle)
	if shown(tell(c)) != before {
		t.Errorf("%+v; want %s", tell(c), before)
	}
}
