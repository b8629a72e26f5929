package cluster_test

import (
	"testing"

	"shard/api"
	"shard/audit"
	"shard/cluster"
	"shard/plan"
)

// filled gives a cluster at rest whose host 0 has the pairs 0, 10, 20 ..
func filled(t *testing.T, c api.Config, pairs int) *cluster.Cluster {
	t.Helper()
	k := newCluster(t, c)
	for i := range uint64(pairs) {
		does(t, k, begin(16, set(10*i, "v")), settle(1, i))
	}
	isSame(t, "the pairs", len(k.Picture().Hosts[0].Pairs), pairs)
	return k
}

func isPlan(t *testing.T, k *cluster.Cluster, err api.Errno, want ...api.Move) {
	t.Helper()
	moves, e := k.Plan()
	isSame(t, "Plan", []any{moves, e}, []any{want, err})
}

func TestP17_14Plan(t *testing.T) {
	k := filled(t, wide(), 7) // 7 pairs, 3 hosts: 3, 2, 2
	isPlan(t, k, api.OK, api.Move{From: 0, To: 1, Lo: 50, Hi: top, Pairs: 2}, api.Move{From: 0, To: 2, Lo: 30, Hi: 49, Pairs: 2})
	// A move holds no more pairs than a delegation can carry.
	k = filled(t, wide(), 80) // 27, 27, 26
	isPlan(t, k, api.OK, api.Move{From: 0, To: 1, Lo: 530, Hi: top, Pairs: 27}, api.Move{From: 0, To: 2, Lo: 270, Hi: 529, Pairs: 26})
	c := wide()
	c.Hosts = 2
	k = filled(t, c, 70)
	isPlan(t, k, api.OK, api.Move{From: 0, To: 1, Lo: 380, Hi: top, Pairs: 32}, api.Move{From: 0, To: 1, Lo: 350, Hi: 379, Pairs: 3})
}

// The plan goes by who owns what now; while a range is on its way there is none.
func TestP17_14Flights(t *testing.T) {
	k := filled(t, wide(), 7)
	does(t, k, shard(0, 2, 0, 29, 0, 0))
	moves, e := k.Plan()
	isSame(t, "Plan", []any{len(moves), e}, []any{2, api.OK})
	does(t, k, deliver(0))
	isPlan(t, k, api.ErrLayout)
	does(t, k, crash(2, 0))
	isPlan(t, k, api.ErrLayout)
	does(t, k, on(api.SRestart, 2), deliver(0))
	isPlan(t, k, api.OK, api.Move{From: 0, To: 1, Lo: 60, Hi: top, Pairs: 1}, api.Move{From: 2, To: 1, Lo: 20, Hi: 29, Pairs: 1})
	// Not even a host that is down, with all that it had, stands in the way.
	does(t, k, crash(0, 0), crash(1, 0), crash(2, 0))
	moves, e = k.Plan()
	isSame(t, "Plan", []any{len(moves), e}, []any{2, api.OK})
}

func TestP17_11Refused(t *testing.T) {
	k := filled(t, wide(), 7)
	for _, n := range []int{0, -1, -1 << 63} {
		refuses(t, k, api.Step{Kind: api.SPlan, N: n}, api.ErrStep)
	}
	does(t, k, shard(0, 2, 0, 29, 0, 0), deliver(0))
	refuses(t, k, api.Step{Kind: api.SPlan, N: 1}, api.ErrLayout)
	refuses(t, k, api.Step{Kind: api.SPlan, N: 0}, api.ErrStep)
}

// Of the plan's moves the first N become Shards, numbered as all others are.
func TestP17_11Shards(t *testing.T) {
	first, second := shard(0, 1, 50, top, 0, 0), shard(0, 2, 30, 49, 0, 0)
	for _, n := range []int{2, 3, 1000, 1<<63 - 1} {
		k := filled(t, wide(), 7)
		plays(t, k, api.Step{Kind: api.SPlan, N: n}, api.OK, 2, asked(14, 1, first), asked(14, 2, second))
		isNet(t, k, letter{api.Admin, 0, 1, asked(0, 1, first).Shard}, letter{api.Admin, 0, 2, asked(0, 2, second).Shard})
		plays(t, k, second, api.OK, 1, asked(15, 3, second))
	}
	k := filled(t, wide(), 7)
	plays(t, k, api.Step{Kind: api.SPlan, N: 1, M: 7, Lo: 9, Hi: 3, A: 99, B: 99}, api.OK, 1, asked(14, 1, first))
	does(t, k, settle(5, 1))
	plays(t, k, api.Step{Kind: api.SPlan, N: 1}, api.OK, 1, asked(16, 2, second))
	does(t, k, settle(5, 1))
	plays(t, k, api.Step{Kind: api.SPlan, N: 1}, api.OK, 0)
	isPlan(t, k, api.OK)
}

func pairsOf(moves []api.Move) int {
	sum := 0
	for _, m := range moves {
		sum += m.Pairs
	}
	return sum
}

// W10: the plan's moves, one at a time, even the hosts out, and leave M as it is.
func TestW10EvenedOut(t *testing.T) {
	turns := 0
	for seed := range 40 {
		d := diceOf(seed)
		c := d.config()
		c.Hosts, c.Clients, c.Pairs, c.Bounds, c.Net = 1+d.Intn(16), 16, 64, 256, 4096
		k := newCluster(t, c)
		for i := range 12 {
			for a := range api.Addr(16) {
				k.Step(begin(16+a, set(d.Uint64()>>(d.Intn(6)*10), "v")))
			}
			does(t, k, settle(c.Queue+1, d.Uint64()))
			if i%2 == 0 {
				k.Step(d.shard(k, c))
			} else {
				k.Step(shard(0, api.Addr(d.Intn(c.Hosts)), d.Uint64(), top, 8, 0))
			}
			does(t, k, settle(c.Queue+1, d.Uint64()))
		}
		turns += evens(t, k, c, d)
	}
	if turns < 200 {
		t.Errorf("%d turns in all", turns)
	}
}

// evens plays the plan turn by turn; how many there were.
func evens(t *testing.T, k *cluster.Cluster, c api.Config, d dice) int {
	t.Helper()
	before := k.Picture()
	moves, e := k.Plan()
	most, turns := pairsOf(moves), 0
	for ; len(moves) > 0; turns++ {
		if turns > most {
			t.Fatalf("W10: %d turns, and %v is left", turns, moves)
		}
		does(t, k, api.Step{Kind: api.SPlan, N: 1}, settle(c.Queue+1, d.Uint64()))
		left, e := k.Plan()
		if e != api.OK || pairsOf(left) != pairsOf(moves)-moves[0].Pairs || !audit.Same(k.Picture(), before) {
			t.Fatalf("W10: %d, behind %v is left: %v", e, moves, left)
		}
		moves = left
	}
	var loads []int
	for _, s := range k.Picture().Hosts {
		loads = append(loads, len(s.Pairs))
	}
	want, _ := plan.Targets(loads)
	isSame(t, "the loads", []any{loads, e}, []any{want, api.OK})
	return turns
}
