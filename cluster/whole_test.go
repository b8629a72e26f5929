package cluster_test

import (
	"fmt"
	"slices"
	"testing"

	"shard/api"
)

// request gives a request of which every execution can be told from all others, with a key that has not had too many calls to be judged.
func (w *watch) request(d dice) (api.Request, bool) {
	r := api.Request{Kind: api.Kind(1 + d.Intn(5)), Key: d.key()}
	if w.calls[r.Key] == api.MaxKeyCalls-4 || len(w.asks) == api.MaxCalls-40 {
		return r, false
	}
	value := []byte(fmt.Sprint("v", len(w.maps)))
	if d.Intn(3) == 0 {
		value = append(value, slices.Repeat([]byte{'.'}, 64-len(value))...)
	}
	switch r.Kind {
	case api.KSet:
		r.Value = value
	case api.KCas:
		r.Value = value
		old, there := w.maps[len(w.maps)-1][r.Key]
		if r.Has = there && d.often(4); r.Has && d.often(4) {
			r.Old = []byte(old)
		}
	case api.KScan:
		a, b := d.key(), d.key()
		r.Key, r.Hi, r.Limit = min(a, b), max(a, b), uint8(1+d.Intn(4))
	}
	return r, true
}

// random plays a step of any kind.
func (w *watch) random(d dice) {
	w.t.Helper()
	switch s := d.step(w.k, w.c); s.Kind {
	case api.SSettle:
		w.settle(1+d.Intn(2), s.Lo)
	case api.SBegin:
		r, fine := w.request(d)
		if !fine {
			return
		}
		s.Req = r
		if w.step(s).Err == api.OK {
			w.calls[r.Key]++
		}
	default:
		w.step(s)
	}
}

// Whatever is lost, doubled, mixed, blocked, thrown in or crashes, W1 to W9 hold of the cluster, behind every single step.
func TestP17_15Whole(t *testing.T) {
	var sum struct{ deeds, undone, ups, ends, strangers, lost int }
	for seed := range 100 {
		d := diceOf(seed)
		c := d.config()
		c.Pairs, c.Bounds = c.Pairs+1, c.Bounds+4
		w := newWatch(t, c)
		for range 250 {
			w.random(d)
		}
		w.isLinear()
		w.rests(d.Uint64())
		w.isLinear()
		sum.deeds += w.seen.deeds
		sum.undone += w.seen.undone
		sum.ups += w.seen.ups
		sum.ends += w.seen.ends
		sum.strangers += w.seen.strangers
		sum.lost += w.seen.lost
	}
	if sum.deeds < 200 || sum.undone < 30 || sum.ups < 300 || sum.ends < 300 || sum.strangers < 100 || sum.lost > 40 {
		t.Errorf("too little came to be: %+v", sum)
	}
}
