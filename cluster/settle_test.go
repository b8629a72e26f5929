package cluster_test

import (
	"testing"

	"shard/api"
	"shard/cluster"
)

func TestP17_10Rounds(t *testing.T) {
	k := newCluster(t, config())
	does(t, k, begin(16, set(5, "v")))
	for _, n := range []int{0, -1, 65, 1000, -1 << 63, 1<<63 - 1} {
		refuses(t, k, settle(n, 7), api.ErrStep)
	}
	plays(t, k, settle(64, 7), api.OK, 1, returned(7, 16, api.Outcome{Seq: 1, Status: api.StOK, Sent: 1}))
	plays(t, k, settle(1, 7), api.OK, 0)
}

// Example 10, and what a Settle sends and tells on its way there.
func TestP17_10Example(t *testing.T) {
	k := newCluster(t, config())
	does(t, k, begin(16, set(5, "v")), shard(0, 1, 0, 9, 0, 0), deliver(0), deliver(0))
	a := k.Step(settle(3, 7))
	if a.Err != api.OK || len(a.Events) != 2 || len(k.Net()) != 0 {
		t.Errorf("%+v; %v", a, links(k))
	}
	p := k.Picture()
	isSame(t, "host 1", p.Hosts[1].Pairs, []api.Pair{pair(5, "v")})
	isSame(t, "the queue", len(p.Hosts[0].End.Peers[1].Queue), 0)
}

// bySteps plays what a Settle says in single steps.
func bySteps(k *cluster.Cluster, hosts, rounds int, x uint64, step func(api.Step) api.Answer) {
	for range rounds {
		for h := range api.Addr(hosts) {
			if n, _ := k.Node(h); n.Up {
				step(on(api.STick, h))
				step(on(api.SSync, h))
			}
		}
		for list := k.Net(); len(list) > 0; list = k.Net() {
			i := int((x >> 33) % uint64(len(list)))
			x = x*6364136223846793005 + 1442695040888963407
			if step(deliver(i)).Err == api.ErrLossyBarred {
				step(drop(i))
			} else if n, e := k.Node(list[i].To); e == api.OK && n.Up {
				step(on(api.SSync, list[i].To))
			}
		}
	}
}

// A Settle is what its single steps are, but that it is one step; so with hosts that are down, links that are blocked, and little room.
func TestP17_10BySteps(t *testing.T) {
	events, sent := 0, 0
	for seed := range 150 {
		d := diceOf(seed)
		c := d.config()
		one, two := newCluster(t, c), newCluster(t, c)
		for range 60 {
			s := d.step(one, c)
			one.Step(s)
			two.Step(s)
		}
		logged := len(one.Events())
		rounds, x := 1+d.Intn(5), d.Uint64()
		a := one.Step(settle(rounds, x))
		n, list := 0, []api.Event(nil)
		bySteps(two, c.Hosts, rounds, x, func(s api.Step) api.Answer {
			a := two.Step(s)
			n += a.Sent
			for _, e := range a.Events {
				e.Step = 60
				list = append(list, e)
			}
			return a
		})
		isSame(t, "the answer", a, api.Answer{Sent: n, Events: list})
		here, there := tell(one), tell(two)
		isSame(t, "the log", here.Events[logged:], list)
		here.Events, there.Events = nil, nil
		isTold(t, "behind it", here, there)
		events += len(list)
		sent += n
	}
	if events < 200 || sent < 500 {
		t.Errorf("only %d events, %d datagrams", events, sent)
	}
}

// Which datagram is taken hangs on Lo: the first choice is Lo >> 33 modulo their number, the next one that of the next number.
func TestP17_10Order(t *testing.T) {
	c := wide()
	c.Clients = 5
	next := func(x uint64) uint64 { return x*6364136223846793005 + 1442695040888963407 }
	for _, x := range []uint64{0, 7, 1<<33 - 1, 1 << 33, 3 << 33, 4 << 33, 5 << 33, 123456789 << 20, top, top - 1<<33} {
		k := newCluster(t, c)
		var asks []api.Addr
		for i := range api.Addr(5) {
			does(t, k, begin(16+i, set(5, string(rune('a'+i)))))
			asks = append(asks, 16+i)
		}
		// All requests are delivered, and nothing of what the host answers: so each choice is one of those that are left.
		for i := range api.Addr(5) {
			does(t, k, block(0, 16+i))
		}
		last := api.Addr(0)
		for y := x; len(asks) > 0; y = next(y) {
			i := int((y >> 33) % uint64(len(asks)))
			last = asks[i]
			asks = append(asks[:i], asks[i+1:]...)
		}
		does(t, k, settle(1, x))
		isSame(t, "what the last one set", k.Picture().Hosts[0].Pairs, []api.Pair{pair(5, string(rune('a'+last-16)))})
	}
}

// Clients do not tick, hosts that are down neither.
func TestP17_10WhoTicks(t *testing.T) {
	c := config()
	c.Patience, c.Tries = 1, 1
	k := newCluster(t, c)
	does(t, k, begin(16, get(5)), on(api.SClear, 0), shard(0, 1, 0, 9, 0, 0), deliver(0), on(api.SClear, 0), crash(0, 0))
	plays(t, k, settle(64, 1), api.OK, 0)
	o, _ := k.Client(16)
	isSame(t, "the client", o, api.Outcome{Phase: api.PhWaiting, Seq: 1, Sent: 1})
	does(t, k, on(api.SRestart, 0))
	plays(t, k, settle(64, 1), api.OK, 2)
	plays(t, k, on(api.STick, 16), api.OK, 0, givenUp(9, 16, 1))
}

// What cannot come through is dropped, and what is to a host that is down is gone; the Settle answers OK all the same.
func TestP17_10Barred(t *testing.T) {
	k := newCluster(t, config())
	does(t, k, begin(16, get(5)), block(16, 0), inject(40, 1, []byte("x")), inject(40, 99, []byte("x")), crash(1, 0))
	plays(t, k, settle(2, 1), api.OK, 0)
	isSame(t, "Count", k.Count(), api.NetCount{Sent: 1, Injected: 2, Delivered: 2, Dropped: 1})
}

// At the limits: 16 hosts with full queues of long delegations, the least MTU, the greatest network.
func TestP17_10Limits(t *testing.T) {
	c := api.Config{Hosts: 16, Clients: 16, Pairs: 1024, Bounds: 256, Queue: 16, Window: 16, Group: 64, Keep: 1024, MTU: 64, Net: 4096, Patience: 64, Tries: 64}
	k := newCluster(t, c)
	for i := range uint64(512) {
		does(t, k, begin(16+api.Addr(i%16), set(i, long(64))))
		if i%16 == 15 {
			does(t, k, settle(1, i))
		}
	}
	isSame(t, "the pairs", len(k.Picture().Hosts[0].Pairs), 512)
	lost := k.Count().Lost
	for i := range uint64(16) {
		does(t, k, shard(0, 1, 32*i, 32*i+31, 1, 1))
		does(t, k, deliver(len(k.Net())-1), on(api.SSync, 0))
		if i%5 == 4 {
			does(t, k, on(api.SClear, 0))
		}
	}
	does(t, k, on(api.STick, 0), on(api.STick, 0))
	if p := k.Picture(); len(p.Hosts[0].End.Peers[1].Queue) != 16 || len(k.Net()) < 1500 {
		t.Fatalf("%d payloads, %d datagrams", len(p.Hosts[0].End.Peers[1].Queue), len(k.Net()))
	}
	does(t, k, settle(17, 99))
	p := k.Picture()
	isSame(t, "at rest", []any{len(p.Hosts[0].Pairs), len(p.Hosts[1].Pairs), len(p.Hosts[0].End.Peers[1].Queue), len(k.Net()), k.Count().Lost}, []any{0, 512, 0, 0, lost})
}
