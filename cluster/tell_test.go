package cluster_test

import (
	"testing"

	"shard/api"
)

// A picture is of all hosts; of one that is down what its disk holds.
func TestP17_12Pictures(t *testing.T) {
	k := newCluster(t, late())
	does(t, k, begin(16, set(5, "v")), deliver(0), on(api.SSync, 0), begin(17, set(6, "w")), deliver(1), shard(0, 1, 0, 5, 0, 0), deliver(1))
	p, s := k.Picture(), k.Durable()
	isSame(t, "both configurations", []any{p.Config, s.Config}, []any{late(), late()})
	isSame(t, "the hosts", []any{len(p.Hosts), len(s.Hosts), p.Hosts[1], p.Hosts[2]}, []any{3, 3, s.Hosts[1], s.Hosts[2]})
	isSame(t, "host 0 now", []any{p.Hosts[0].Pairs, p.Hosts[0].Table}, []any{[]api.Pair{pair(6, "w")}, []api.Segment{seg(0, 5, 1), seg(6, top, 0)}})
	isSame(t, "host 0 on its disk", []any{s.Hosts[0].Pairs, s.Hosts[0].Table}, []any{[]api.Pair{pair(5, "v")}, []api.Segment{seg(0, top, 0)}})
	does(t, k, crash(0, 0))
	isSame(t, "while it is down", []any{k.Picture(), k.Durable()}, []any{s, s})
	does(t, k, on(api.SRestart, 0))
	isSame(t, "behind it", []any{k.Picture(), k.Durable()}, []any{s, s})
}

func TestP17_13WhoIsThere(t *testing.T) {
	for _, c := range []api.Config{config(), wide()} {
		k := newCluster(t, c)
		for a := range 256 {
			x := api.Addr(a)
			o, e := k.Client(x)
			segs, e1 := k.Hints(x)
			want, all := api.ErrArg, 0
			if a >= 16 && a < 16+c.Clients {
				want, all = api.OK, 1
			}
			isSame(t, "a client", []any{o, e, len(segs), e1}, []any{api.Outcome{}, want, all, want})
			n, e := k.Node(x)
			d, e1 := k.Disk(x)
			there := a < c.Hosts
			isSame(t, "a host", []any{e == api.OK, e1 == api.OK, n.Up, len(d.Slots[0])+len(d.Slots[1]) > 0}, []any{there, there, there, there})
			if !there {
				isSame(t, "no host", []any{n, d, e, e1}, []any{api.NodeInfo{}, api.Disk{}, api.ErrArg, api.ErrArg})
			}
		}
	}
}

func TestP17_13Tells(t *testing.T) {
	k := newCluster(t, late())
	does(t, k, begin(16, set(5, "v")), begin(17, get(6)), deliver(0), on(api.SSync, 0), deliver(1))
	events := []api.Event{invoked(0, 16, 1, set(5, "v")), invoked(1, 17, 1, get(6)), returned(4, 16, api.Outcome{Seq: 1, Status: api.StOK, Sent: 1})}
	isSame(t, "Events", k.Events(), events)
	isSame(t, "Events again", k.Events(), events)
	isSame(t, "Net", k.Net(), []api.Datagram{{From: 17, To: 0, Data: partsOf(api.Message{Kind: api.KGet, Seq: 1, Key: 6}, 1, 256)[0]}})
	isSame(t, "Count", k.Count(), api.NetCount{Sent: 3, Delivered: 2})
	one, e := k.Client(16)
	two, e1 := k.Client(17)
	isSame(t, "Client", []any{one, e, two, e1}, []any{api.Outcome{Phase: api.PhDone, Seq: 1, Status: api.StOK, Sent: 1}, api.OK, api.Outcome{Phase: api.PhWaiting, Seq: 1, Sent: 1}, api.OK})
	n, _ := k.Node(0)
	isSame(t, "Node", []any{n.Up, n.Epoch, n.Held, n.Journal.Records, n.Journal.Waiting}, []any{true, 1, 0, 1, 0})
	before, _ := k.Disk(0)
	does(t, k, begin(16, set(7, "w")), deliver(1))
	n, _ = k.Node(0)
	after, _ := k.Disk(0)
	isSame(t, "Node", []any{n.Held, n.Journal.Records, n.Journal.Waiting}, []any{1, 2, 1})
	isSame(t, "Disk", after, before)
	does(t, k, on(api.SSync, 0))
	after, _ = k.Disk(0)
	if same(after, before) {
		t.Errorf("Disk: nothing more than before a Sync")
	}
	does(t, k, crash(0, 0))
	n, _ = k.Node(0)
	left, _ := k.Disk(0)
	isSame(t, "of a host that is down", []any{n, left}, []any{api.NodeInfo{Epoch: 1}, after})
}

// Hints are what the client has learnt by redirects.
func TestP17_13Hints(t *testing.T) {
	k := newCluster(t, config())
	does(t, k, beginAt(16, 1, get(5)), deliver(0), deliver(0))
	isSame(t, "Hints", hintsOf(t, k, 16), []api.Segment{seg(0, top, 0)})
	does(t, k, deliver(0), deliver(0), shard(0, 1, 3, 9, 0, 0), settle(3, 1), begin(16, get(5)), settle(1, 1))
	isSame(t, "Hints", hintsOf(t, k, 16), []api.Segment{seg(0, 2, 0), seg(3, 9, 1), seg(10, top, 0)})
}

// To tell changes nothing.
func TestP17_13TellingChangesNothing(t *testing.T) {
	for seed := range 20 {
		d := diceOf(seed)
		c := d.config()
		one, two := newCluster(t, c), newCluster(t, c)
		for range 100 {
			s := d.step(one, c)
			isSame(t, brief(s), one.Step(s), two.Step(s))
			isTold(t, "asked twice", tell(one), tell(one))
		}
		isTold(t, "never asked before", tell(two), tell(one))
	}
}
