package cluster_test

import (
	"testing"

	"shard/api"
)

func TestP17_9WhoIsThere(t *testing.T) {
	for _, hosts := range []int{1, 2, 15, 16} {
		c := config()
		c.Hosts = hosts
		k := newCluster(t, c)
		for _, a := range []api.Addr{api.Addr(hosts), 15, 16, 17, 31, 32, 33, 255} {
			if int(a) < hosts {
				continue
			}
			for _, kind := range []api.StepKind{api.SSync, api.SCompact, api.SCrash, api.SRestart} {
				refuses(t, k, api.Step{Kind: kind, A: a, N: -1}, api.ErrStep)
			}
			if a != 16 {
				refuses(t, k, on(api.STick, a), api.ErrStep)
			}
		}
		for h := range api.Addr(hosts) {
			does(t, k, on(api.STick, h), on(api.SSync, h), on(api.SCompact, h), crash(h, 0), on(api.SRestart, h))
		}
	}
}

func TestP17_9Errors(t *testing.T) {
	k := newCluster(t, config())
	refuses(t, k, on(api.SRestart, 1), api.ErrUp)
	for _, n := range []int{-1, -1 << 63} {
		refuses(t, k, crash(1, n), api.ErrArg)
	}
	does(t, k, crash(1, 1<<63-1))
	for _, s := range []api.Step{on(api.STick, 1), on(api.SSync, 1), on(api.SCompact, 1), crash(1, 0), crash(1, -1)} {
		refuses(t, k, s, api.ErrDown)
	}
	does(t, k, on(api.STick, 0), on(api.SRestart, 1))
	n, e := k.Node(1)
	isSame(t, "Node", []any{n.Up, n.Epoch, e}, []any{true, 2, api.OK})
}

// What a host answers waits for its sync.
func TestP17_9Sync(t *testing.T) {
	k := newCluster(t, late())
	does(t, k, begin(16, set(5, "v")), begin(17, get(5)))
	plays(t, k, deliver(0), api.OK, 0)
	plays(t, k, deliver(0), api.OK, 0)
	isSame(t, "what is durable", len(k.Durable().Hosts[0].Pairs), 0)
	plays(t, k, on(api.SSync, 1), api.OK, 0)
	plays(t, k, on(api.SSync, 0), api.OK, 2)
	isSame(t, "what leaves", links(k), []api.Link{{From: 0, To: 16}, {From: 0, To: 17}})
	isSame(t, "what is durable", k.Durable().Hosts[0].Pairs, []api.Pair{pair(5, "v")})
	plays(t, k, on(api.SSync, 0), api.OK, 0)
}

// A compacted journal that is not synced holds back what comes behind it.
func TestP17_9Compact(t *testing.T) {
	k := newCluster(t, late())
	does(t, k, begin(16, get(5)))
	plays(t, k, on(api.SCompact, 0), api.OK, 0)
	plays(t, k, deliver(0), api.OK, 0)
	n, _ := k.Node(0)
	isSame(t, "Node", []any{n.Held, n.Journal.Gen, n.Journal.Unsynced > 0}, []any{1, 3, true})
	plays(t, k, on(api.SSync, 0), api.OK, 1)
}

// What a compaction lets go is sent by that step: it syncs, as the records are as many as Keep and Group want.
func TestP17_9Keep(t *testing.T) {
	c := wide()
	c.Keep = 1
	k := newCluster(t, c)
	does(t, k, begin(16, set(5, "v")))
	plays(t, k, deliver(0), api.OK, 1)
	n, _ := k.Node(0)
	isSame(t, "Node", []any{n.Journal.Gen, n.Journal.Records}, []any{3, 0})
}

// A crash takes back what was not synced, and what was held back never leaves.
func TestP17_9Crash(t *testing.T) {
	k := newCluster(t, late())
	does(t, k, begin(16, set(5, "v")), begin(17, set(6, "w")), double(0), on(api.SSync, 0), deliver(1), begin(18, get(5)))
	plays(t, k, crash(0, 0), api.OK, 0)
	isSame(t, "what is left", k.Picture().Hosts[0].Pairs, []api.Pair{pair(5, "v")})
	plays(t, k, on(api.SRestart, 0), api.OK, 0)
	plays(t, k, on(api.SSync, 0), api.OK, 0)
	isSame(t, "what is left", k.Picture().Hosts[0].Pairs, []api.Pair{pair(5, "v")})
	plays(t, k, on(api.STick, 0), api.OK, 0)
	n, _ := k.Node(0)
	isSame(t, "Node", []any{n.Up, n.Epoch}, []any{true, 2})
	// A crash that keeps the bytes keeps the request.
	does(t, k, on(api.STick, 17), on(api.STick, 17))
	list := links(k)
	does(t, k, deliver(len(list)-1), crash(0, 1000), on(api.SRestart, 0))
	isSame(t, "what is left", k.Picture().Hosts[0].Pairs, []api.Pair{pair(5, "v"), pair(6, "w")})
}

// Example 8.
func TestP17_9Example8(t *testing.T) {
	k := newCluster(t, config())
	does(t, k, begin(16, set(5, "v")), shard(0, 1, 0, 9, 0, 0), deliver(0), deliver(0), deliver(1))
	before := shown(k.Picture())
	plays(t, k, crash(1, 0), api.OK, 0)
	isSame(t, "while it is down", shown(k.Picture()), before)
	plays(t, k, on(api.SRestart, 1), api.OK, 0)
	isSame(t, "behind it", shown(k.Picture()), before)
	n, _ := k.Node(1)
	isSame(t, "Node", []any{n.Up, n.Epoch}, []any{true, 2})
}

// A host's ticks send again what is not acknowledged, and age what it has of a packet.
func TestP17_8Host(t *testing.T) {
	k := newCluster(t, config())
	plays(t, k, on(api.STick, 0), api.OK, 0)
	does(t, k, shard(0, 1, 0, 9, 0, 0), deliver(0), on(api.SClear, 0))
	plays(t, k, on(api.STick, 1), api.OK, 0)
	plays(t, k, on(api.STick, 0), api.OK, 1)
	plays(t, k, on(api.STick, 0), api.OK, 1)
	isSame(t, "what is sent", links(k), []api.Link{{From: 0, To: 1}, {From: 0, To: 1}})
	does(t, k, deliver(0), deliver(1))
	plays(t, k, on(api.STick, 0), api.OK, 0)
	two := partsOf(api.Message{Kind: api.KSet, Seq: 1, Value: []byte(long(64))}, 7, 64)
	does(t, k, inject(40, 1, two[0]), deliver(1))
	for i := range 9 {
		n, _ := k.Node(1)
		isSame(t, "Partial", n.Partial == 1, i < 8)
		does(t, k, on(api.STick, 1))
	}
}
