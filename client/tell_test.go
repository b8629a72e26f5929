package client_test

import (
	"testing"

	"shard/api"
	"shard/client"
)

func TestP12_8Idle(t *testing.T) {
	c := newClient(t, 3, 2, 4)
	c.Tick()
	c.GiveUp()
	c.Begin(api.Request{Kind: api.KShard, Key: 7, Value: []byte("v")})
	c.Take(0, gotten(1, "v"))
	c.Aim(1)
	if got := tell(c); shown(got) != shown(told{Hints: []api.Segment{seg(0, top, 1)}}) {
		t.Errorf("%+v", got)
	}
}

// In every phase, of a request of every kind.
func TestP12_8Phases(t *testing.T) {
	for _, r := range asked() {
		for _, m := range answers(1)[r.Kind] {
			c := newClient(t, 3, 1, 3)
			isBegun(t, c, r, 0)
			isTicks(t, c, 0)
			isFollowed(t, c, 0, redirect(1, 7, 7, 2))
			isOutcome(t, c, api.Outcome{Phase: api.PhWaiting, Seq: 1, Host: 2, Sent: 3, Hops: 1})
			isStray(t, c, 0, reply(1, 99, api.StOK))
			isDone(t, c, 1, m)
			isOutcome(t, c, api.Outcome{Phase: api.PhDone, Seq: 1, Status: m.Status, Value: m.Value, Pairs: m.Pairs, Hi: m.Hi, Host: 1, Sent: 3, Hops: 1})
			if shown(c.Request()) != shown(r) {
				t.Errorf("Request: %+v; want %+v", c.Request(), r)
			}
		}
		c := waiting(t, 3, 1, 3, r)
		isFollowed(t, c, 0, redirect(1, 7, 7, 2))
		isTicks(t, c, 2, 0, -1)
		isOutcome(t, c, api.Outcome{Phase: api.PhUnknown, Seq: 1, Host: 0, Sent: 4, Hops: 1})
		if shown(c.Request()) != shown(r) {
			t.Errorf("Request: %+v; want %+v", c.Request(), r)
		}
	}
}

// To ask changes nothing.
func TestP12_8AskedOften(t *testing.T) {
	c := waiting(t, 3, 2, 4, scan(7, 9, 3))
	isDone(t, c, 1, scanned(1, 9, 7, 8))
	want := shown(tell(c))
	for range 3 {
		if got := shown(tell(c)); got != want {
			t.Errorf("%s; want %s", got, want)
		}
	}
}

// holdsNothing holds a client that is none to what P12.11 says of one.
func holdsNothing(t *testing.T, c *client.Client) {
	t.Helper()
	for range 2 {
		for _, r := range append(asked(), wrongs()...) {
			isRefused(t, c, r, api.ErrNil)
		}
		for host := range 256 {
			from := api.Addr(host)
			isErr(t, c.Aim(from), api.ErrNil)
			for _, m := range []api.Message{{}, gotten(0, "v"), gotten(1, "v"), redirect(1, 0, top, 1), {Kind: 255, Payload: []byte("p")}} {
				if got, e := c.Take(from, m); e != api.ErrNil || len(got) != 0 {
					t.Errorf("Take: %v, %d", got, e)
				}
			}
		}
		isErr(t, c.GiveUp(), api.ErrNil)
		isTicks(t, c, -1, -1)
		if shown(tell(c)) != shown(told{}) {
			t.Errorf("%+v", tell(c))
		}
	}
}

func TestP12_11Nil(t *testing.T) { holdsNothing(t, nil) }

// Of one that New did not make nothing is promised but that it does not panic.
func TestR1ClientThatWasNotMade(t *testing.T) { holdsNothing(t, &client.Client{}) }
