package cluster_test

import (
	"testing"

	"shard/api"
)

// Of any steps, with whatever arguments, a cluster answers and becomes what the chapter says.
func TestP17Plays(t *testing.T) {
	counts := map[api.EvKind]int{}
	for seed := range 150 {
		d := diceOf(seed)
		w := newTwin(t, d.config())
		for range 200 {
			a := w.step(d.step(w.k, w.d.c), d.noise)
			for _, e := range a.Events {
				counts[e.Kind]++
			}
		}
	}
	for kind := api.EvInvoke; kind <= api.EvDone; kind++ {
		if counts[kind] < 100 {
			t.Errorf("only %d events of kind %d", counts[kind], kind)
		}
	}
}
