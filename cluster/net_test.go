package cluster_test

import (
	"testing"

	"shard/api"
)

func TestP17_7Drop(t *testing.T) {
	k := newCluster(t, config())
	does(t, k, inject(40, 0, []byte("a")), inject(41, 0, []byte("b")), inject(42, 0, []byte("c")))
	for _, n := range []int{-1, 3, 99, -1 << 63, 1<<63 - 1} {
		refuses(t, k, drop(n), api.ErrLossyIndex)
	}
	plays(t, k, drop(1), api.OK, 0)
	isSame(t, "what is left", links(k), []api.Link{{From: 40}, {From: 42}})
	does(t, k, block(40, 0), drop(0), drop(0))
	refuses(t, k, drop(0), api.ErrLossyIndex)
	isSame(t, "Count", k.Count(), api.NetCount{Injected: 3, Dropped: 3})
}

func TestP17_7Inject(t *testing.T) {
	c := config()
	c.Net = 2
	k := newCluster(t, c)
	for _, a := range []api.Addr{0, 1, 15, 16, 31, 32} {
		refuses(t, k, inject(a, 0, []byte("x")), api.ErrLossySource)
		refuses(t, k, inject(a, 0, nil), api.ErrLossySource)
	}
	for _, b := range [][]byte{nil, {}, make([]byte, 1025), make([]byte, 1<<20)} {
		refuses(t, k, inject(33, 0, b), api.ErrLossyLong)
	}
	does(t, k, block(34, 0))
	plays(t, k, inject(34, 0, []byte("x")), api.ErrLossyBarred, 0)
	does(t, k, inject(33, 0, []byte("x")), inject(255, 255, make([]byte, 1024)))
	plays(t, k, inject(33, 0, []byte("x")), api.ErrLossyFull, 0)
	isSame(t, "Count", k.Count(), api.NetCount{Injected: 2, Barred: 1, Lost: 1})
	isSame(t, "Net", k.Net(), []api.Datagram{{From: 33, To: 0, Data: []byte("x")}, {From: 255, To: 255, Data: make([]byte, 1024)}})
}

// A link is blocked in one direction, and healed alone.
func TestP17_7Block(t *testing.T) {
	k := newCluster(t, wide())
	does(t, k, begin(16, get(5)), block(16, 0), block(16, 0), block(17, 0), block(0, 18))
	plays(t, k, deliver(0), api.ErrLossyBarred, 0)
	plays(t, k, begin(17, get(5)), api.OK, 0, invoked(6, 17, 1, get(5)))
	plays(t, k, begin(18, get(5)), api.OK, 1, invoked(7, 18, 1, get(5)))
	plays(t, k, deliver(1), api.OK, 0)
	plays(t, k, heal(16, 0), api.OK, 0)
	plays(t, k, heal(16, 0), api.OK, 0)
	plays(t, k, heal(16, 99), api.OK, 0)
	plays(t, k, deliver(0), api.OK, 1)
	plays(t, k, on(api.STick, 17), api.OK, 0)
	plays(t, k, on(api.STick, 17), api.OK, 0)
	does(t, k, heal(17, 0), heal(0, 18), on(api.SGiveUp, 17))
	plays(t, k, begin(17, get(5)), api.OK, 1, invoked(18, 17, 2, get(5)))
	does(t, k, block(255, 255), heal(255, 255))
}

// 255 stands for no other address, here too.
func TestP17_7HealOne(t *testing.T) {
	k := newCluster(t, config())
	does(t, k, begin(16, get(5)), block(16, 0), heal(255, 255), heal(16, 255), heal(255, 0), heal(0, 16))
	plays(t, k, deliver(0), api.ErrLossyBarred, 0)
}

func TestP17_7Clear(t *testing.T) {
	k := newCluster(t, config())
	plays(t, k, on(api.SClear, 0), api.OK, 0)
	does(t, k, begin(16, get(5)), inject(40, 0, []byte("a")), block(40, 0))
	plays(t, k, on(api.SClear, 99), api.OK, 0)
	isSame(t, "the network", []any{k.Net(), k.Count()}, []any{nil0, api.NetCount{Sent: 1, Injected: 1, Dropped: 2}})
	plays(t, k, inject(40, 0, []byte("a")), api.ErrLossyBarred, 0)
}
