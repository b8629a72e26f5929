package cluster_test

import (
	"testing"

	"shard/api"
)

// No kinds but the fifteen are steps.
func TestP17_2Kinds(t *testing.T) {
	k := newCluster(t, config())
	does(t, k, begin(16, set(5, "v")))
	for kind := range 256 {
		if kind >= 1 && kind <= 15 {
			continue
		}
		refuses(t, k, api.Step{Kind: api.StepKind(kind), A: 16, N: 1, On: true, Req: get(5)}, api.ErrStep)
	}
}

// Every step has a number, those that are refused too.
func TestP17_2Numbers(t *testing.T) {
	k := newCluster(t, config())
	plays(t, k, api.Step{}, api.ErrStep, 0)
	plays(t, k, api.Step{Kind: 99}, api.ErrStep, 0)
	plays(t, k, begin(17, get(5)), api.ErrStep, 0)
	plays(t, k, begin(16, get(5)), api.OK, 1, invoked(3, 16, 1, get(5)))
	plays(t, k, begin(16, get(5)), api.ErrBusy, 0)
	plays(t, k, deliver(9), api.ErrLossyIndex, 0)
	plays(t, k, on(api.SGiveUp, 16), api.OK, 0, givenUp(6, 16, 1))
	plays(t, k, begin(16, del(9)), api.OK, 1, invoked(7, 16, 2, del(9)))
	isSame(t, "Events", k.Events(), []api.Event{invoked(3, 16, 1, get(5)), givenUp(6, 16, 1), invoked(7, 16, 2, del(9))})
}

// All events of a step have its number; they are in the log in the order in which they came about.
func TestP17_2ManyEvents(t *testing.T) {
	k := newCluster(t, wide())
	does(t, k, begin(16, set(5, "v")), begin(17, set(6, "w")), begin(18, get(7)), shard(0, 1, 100, 200, 0, 0))
	logged := k.Events()
	isSame(t, "the first events", logged, []api.Event{
		invoked(0, 16, 1, set(5, "v")), invoked(1, 17, 1, set(6, "w")), invoked(2, 18, 1, get(7)), asked(3, 1, shard(0, 1, 100, 200, 0, 0)),
	})
	a := k.Step(settle(1, 12345))
	if a.Err != api.OK || len(a.Events) != 4 {
		t.Fatalf("%+v", a)
	}
	for _, e := range a.Events {
		want := returned(4, e.Who, api.Outcome{Seq: 1, Status: api.StOK, Sent: 1})
		switch e.Who {
		case api.Admin:
			want = heard(4, 1, 0, api.StOK)
		case 18:
			want.Out.Status = api.StMissing
		}
		isSame(t, "an event", e, want)
	}
	isSame(t, "the log", k.Events(), append(logged, a.Events...))
}

// Sent counts what the network took by Send: nothing that it refused, nothing that was injected.
func TestP17_2Sent(t *testing.T) {
	c := wide()
	c.Net, c.MTU = 3, 64
	k := newCluster(t, c)
	plays(t, k, begin(16, set(5, long(64))), api.OK, 2, invoked(0, 16, 1, set(5, long(64))))
	plays(t, k, block(17, 0), api.OK, 0)
	plays(t, k, begin(17, get(5)), api.OK, 0, invoked(2, 17, 1, get(5)))
	plays(t, k, inject(40, 0, []byte("x")), api.OK, 0)
	plays(t, k, begin(18, get(5)), api.OK, 0, invoked(4, 18, 1, get(5)))
	plays(t, k, drop(2), api.OK, 0)
	plays(t, k, shard(0, 1, 0, 9, 0, 0), api.OK, 1, asked(6, 1, shard(0, 1, 0, 9, 0, 0)))
	isSame(t, "Count", k.Count(), api.NetCount{Sent: 3, Injected: 1, Dropped: 1, Lost: 1, Barred: 1})
}
