package core_test

import (
	"math/rand"
	"testing"

	"shard/api"
	"shard/core"
)

// anyMessage gives a message that mostly may be, from somebody who mostly may send it.
func anyMessage(r *rand.Rand, d *docCore) (api.Addr, api.Message) {
	keys := []uint64{0, 1, 9, 10, 11, 19, 20, 29, 30, 31, 50, 99, 100, top - 1, top}
	key := func() uint64 { return keys[r.Intn(len(keys))] }
	span := func() (uint64, uint64) {
		a, b := key(), key()
		return min(a, b), max(a, b)
	}
	value := []string{"", "a", "b", "long enough"}[r.Intn(4)]
	from := 16 + api.Addr(r.Intn(d.c.Clients))
	seq := d.sessions[from].Seq + uint64(r.Intn(4))
	if seq > 1 && r.Intn(4) == 0 {
		seq--
	}
	lo, hi := span()
	peer := api.Addr(r.Intn(d.c.Hosts))
	p := d.end.State().Peers[peer]
	switch r.Intn(11) {
	case 0:
		return from, get(seq, key())
	case 1, 2:
		return from, set(seq, key(), value)
	case 3:
		return from, del(seq, key())
	case 4:
		return from, cas(seq, key(), "a", value)
	case 5:
		return from, fill(seq, key(), value)
	case 6:
		return from, scan(seq, lo, hi, uint8(r.Intn(18)))
	case 7:
		return api.Admin, shard(lo, hi, api.Addr(r.Intn(d.c.Hosts+1)), uint32(r.Intn(3)), uint32(r.Intn(2)))
	case 8:
		var pairs []api.Pair
		for _, k := range keys {
			if lo <= k && k <= hi && r.Intn(3) == 0 {
				pairs = append(pairs, pair(k, value))
			}
		}
		sessions := []api.Session{sess(16+api.Addr(r.Intn(16)), seq+1, api.Status(1+r.Intn(4)))}
		return peer, data(p.Delivered+uint64(r.Intn(4)), delegation(lo, hi, uint32(r.Intn(3)), uint32(r.Intn(3)), pairs, sessions))
	case 9:
		return peer, ack(p.Acked+uint64(r.Intn(3)), uint64(r.Intn(3)))
	}
	all := oneOfEach()
	return api.Addr(r.Intn(40)), all[r.Intn(len(all))]
}

// TestWhole: any messages, to a host and to the document's; now and then the host is made anew of its saved state.
func TestWhole(t *testing.T) {
	for seed := range 60 {
		r := rand.New(rand.NewSource(int64(seed)))
		c := wide()
		c.Hosts, c.Clients, c.Pairs, c.Bounds = 2+r.Intn(3), 1+r.Intn(3), r.Intn(8), r.Intn(12)
		c.Queue = 1 + r.Intn(4)
		c.Window = 1 + r.Intn(c.Queue)
		self := api.Addr(r.Intn(2))
		n, d := newCore(t, c, self), newDoc(c, self)
		for range 400 {
			from, m := anyMessage(r, d)
			holdApply(t, n, d, from, m)
			if got, want := n.Tick(), d.end.Tick(); shown(got) != shown(want) {
				t.Fatalf("Tick: %s; want %s", brief(got), brief(want))
			}
			if r.Intn(20) == 0 {
				b := isSaved(t, n.State())
				s, _ := core.Read(b)
				isErr(t, core.CheckState(c, s), api.OK)
				n = loadCore(t, c, s)
			}
		}
	}
}
