package cluster_test

import (
	"testing"

	"shard/api"
	"shard/cluster"
	"shard/frag"
)

// notClients are addresses at which a cluster with so many clients has none.
func notClients(clients int) []api.Addr {
	list := []api.Addr{0, 1, 15, 32, 33, 200, 255}
	for a := 16 + clients; a <= 31; a++ {
		list = append(list, api.Addr(a))
	}
	return list
}

func TestP17_3WhoIsThere(t *testing.T) {
	for clients := range 4 {
		c := config()
		c.Clients = clients
		k := newCluster(t, c)
		for _, a := range notClients(clients) {
			refuses(t, k, begin(a, get(5)), api.ErrStep)
			refuses(t, k, beginAt(a, 99, api.Request{}), api.ErrStep)
			refuses(t, k, on(api.SGiveUp, a), api.ErrStep)
			if a > 1 {
				refuses(t, k, on(api.STick, a), api.ErrStep)
			}
		}
		for i := range clients {
			does(t, k, begin(16+api.Addr(i), get(5)), on(api.STick, 16+api.Addr(i)), on(api.SGiveUp, 16+api.Addr(i)))
		}
	}
}

// A request goes out with its event, whatever its kind is.
func TestP17_3Begin(t *testing.T) {
	k := newCluster(t, config())
	for i, r := range []api.Request{get(5), set(5, "v"), set(5, ""), del(5), cas(5, "a", "b"), {Kind: api.KCas, Key: 5, Value: []byte("b")}, scan(5, 9, 3)} {
		seq := uint64(i + 1)
		plays(t, k, begin(16, r), api.OK, 1, invoked(2*i, 16, seq, r))
		list := letters(k.Net())
		m := api.Message{Kind: r.Kind, Seq: seq, Key: r.Key, Hi: r.Hi, Value: r.Value, Old: r.Old, Has: r.Has, Limit: r.Limit}
		isSame(t, "what goes out", list[len(list)-1], letter{16, 0, seq, m})
		plays(t, k, on(api.SGiveUp, 16), api.OK, 0, givenUp(2*i+1, 16, seq))
	}
}

func TestP17_3Refused(t *testing.T) {
	k := newCluster(t, config())
	for _, r := range []api.Request{{}, {Kind: api.KShard, Key: 1, Hi: 2}, {Kind: api.KGet, Value: []byte("v")}, set(1, long(65)), scan(2, 1, 1), scan(1, 2, 0), scan(1, 2, 17)} {
		refuses(t, k, begin(16, r), api.ErrRequest)
	}
	does(t, k, begin(16, get(5)))
	refuses(t, k, begin(16, get(5)), api.ErrBusy)
	refuses(t, k, begin(16, api.Request{}), api.ErrBusy)
	refuses(t, k, beginAt(16, 1, get(5)), api.ErrBusy)
	refuses(t, k, beginAt(16, 99, get(5)), api.ErrBusy)
}

func hintsOf(t *testing.T, k *cluster.Cluster, a api.Addr) []api.Segment {
	t.Helper()
	segs, e := k.Hints(a)
	if e != api.OK {
		t.Fatalf("Hints(%d): %d", a, e)
	}
	return segs
}

// With On the client aims first; what that did stays, though the request is refused then.
func TestP17_3Aim(t *testing.T) {
	k := newCluster(t, config())
	for _, b := range []api.Addr{2, 15, 16, 32, 255} {
		refuses(t, k, beginAt(16, b, get(5)), api.ErrArg)
		refuses(t, k, beginAt(16, b, api.Request{}), api.ErrArg)
	}
	plays(t, k, beginAt(16, 1, api.Request{}), api.ErrRequest, 0)
	isSame(t, "Hints", hintsOf(t, k, 16), []api.Segment{seg(0, top, 1)})
	does(t, k, begin(16, get(5)))
	isSame(t, "where it goes", links(k), []api.Link{{From: 16, To: 1}})
	does(t, k, on(api.SGiveUp, 16), beginAt(16, 0, get(6)))
	isSame(t, "where it goes", links(k), []api.Link{{From: 16, To: 1}, {From: 16, To: 0}})
	does(t, k, on(api.SGiveUp, 16))
	// Without On it does not matter what B is.
	does(t, k, api.Step{Kind: api.SBegin, A: 16, B: 99, Req: get(7)})
	isSame(t, "Hints", hintsOf(t, k, 16), []api.Segment{seg(0, top, 0)})
}

// A packet goes in fragments, and has a number: each sender counts its own, from 1 on, whether the network takes them or not.
func TestP17_3Packets(t *testing.T) {
	c := wide()
	c.MTU, c.Patience, c.Tries = 64, 1, 9
	k := newCluster(t, c)
	fragments := func(want ...api.Frag) {
		t.Helper()
		list := k.Net()
		var got []api.Frag
		for _, d := range list {
			f, e := frag.Look(d.Data)
			if e != api.OK || len(d.Data) > 64 {
				t.Fatalf("%d, %d bytes", e, len(d.Data))
			}
			f.Part = nil
			got = append(got, f)
		}
		isSame(t, "the fragments", got, want)
		does(t, k, on(api.SClear, 0))
	}
	does(t, k, begin(16, set(5, long(64))), begin(17, get(5)))
	fragments(api.Frag{Id: 1, Index: 0, Count: 2, Total: 81}, api.Frag{Id: 1, Index: 1, Count: 2, Total: 81}, api.Frag{Id: 1, Count: 1, Total: 16})
	does(t, k, on(api.STick, 16))
	fragments(api.Frag{Id: 2, Index: 0, Count: 2, Total: 81}, api.Frag{Id: 2, Index: 1, Count: 2, Total: 81})
	does(t, k, block(16, 1), on(api.STick, 16), heal(16, 1), on(api.SGiveUp, 16)) // the third packet is lost
	fragments()
	plays(t, k, begin(16, api.Request{}), api.ErrRequest, 0)
	does(t, k, begin(16, get(5)), on(api.STick, 17), shard(1, 0, 0, 9, 0, 0), shard(1, 0, 0, 9, 0, 0))
	fragments(api.Frag{Id: 4, Count: 1, Total: 16}, api.Frag{Id: 2, Count: 1, Total: 16}, api.Frag{Id: 1, Count: 1, Total: 20}, api.Frag{Id: 2, Count: 1, Total: 20})
}

func TestP17_4GiveUp(t *testing.T) {
	k := newCluster(t, config())
	refuses(t, k, on(api.SGiveUp, 16), api.ErrIdle)
	does(t, k, begin(16, set(5, "v")))
	plays(t, k, on(api.SGiveUp, 16), api.OK, 0, givenUp(2, 16, 1))
	refuses(t, k, on(api.SGiveUp, 16), api.ErrIdle)
	o, _ := k.Client(16)
	isSame(t, "the outcome", o, api.Outcome{Phase: api.PhUnknown, Seq: 1, Sent: 1})
	does(t, k, deliver(0))
	plays(t, k, deliver(0), api.ErrStray, 0)
	isSame(t, "it was done", k.Picture().Hosts[0].Pairs, []api.Pair{pair(5, "v")})
	does(t, k, begin(16, get(5)), deliver(0), deliver(0))
	refuses(t, k, on(api.SGiveUp, 16), api.ErrIdle)
}

// A client that nothing comes to tries again and again, and gives up by itself, with the event.
func TestP17_8Client(t *testing.T) {
	k := newCluster(t, config())
	plays(t, k, on(api.STick, 16), api.OK, 0)
	does(t, k, begin(16, get(5)))
	for i, sent := range []int{0, 1, 0, 1, 0} {
		plays(t, k, on(api.STick, 16), api.OK, sent)
		if o, _ := k.Client(16); o.Phase != api.PhWaiting {
			t.Fatalf("tick %d: %+v", i, o)
		}
	}
	plays(t, k, on(api.STick, 16), api.OK, 0, givenUp(7, 16, 1))
	plays(t, k, on(api.STick, 16), api.OK, 0)
	isSame(t, "where it went", links(k), []api.Link{{From: 16, To: 0}, {From: 16, To: 0}, {From: 16, To: 1}})
	does(t, k, on(api.SClear, 0), begin(16, get(5)), deliver(0), deliver(0))
	for range 9 {
		plays(t, k, on(api.STick, 16), api.OK, 0)
	}
}

// torn lets client 16 wait for a reply of two fragments, which lie in the network.
func torn(t *testing.T) *cluster.Cluster {
	t.Helper()
	c := wide()
	c.MTU, c.Patience = 64, 64
	k := newCluster(t, c)
	does(t, k, begin(17, set(5, long(64))), deliver(0), deliver(0), deliver(0), begin(16, get(5)), deliver(0))
	isSame(t, "the reply", links(k), []api.Link{{From: 0, To: 16}, {From: 0, To: 16}})
	return k
}

// A client's ticks age what it has of a packet.
func TestP17_8ClientJoins(t *testing.T) {
	for ticks := range 10 {
		k := torn(t)
		plays(t, k, deliver(1), api.OK, 0)
		for range ticks {
			plays(t, k, on(api.STick, 17), api.OK, 0)
			plays(t, k, on(api.STick, 16), api.OK, 0)
		}
		a := k.Step(deliver(0))
		if whole := len(a.Events) == 1; whole != (ticks < 8) || a.Err != api.OK {
			t.Errorf("%d ticks: %+v", ticks, a)
		}
	}
}
