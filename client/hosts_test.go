package client_test

import (
	"math/rand"
	"testing"

	"shard/api"
	"shard/client"
	"shard/core"
)

// hosts are cores, and what is on its way between them, a client and the admin.
type hosts struct {
	t     *testing.T
	rnd   *rand.Rand
	cores []*core.Core
	way   []mail
	model map[uint64]string // what the hosts' map should be
}

type mail struct {
	from api.Addr
	out  api.Out
}

func newHosts(t *testing.T, rnd *rand.Rand, n int) *hosts {
	h := &hosts{t: t, rnd: rnd, model: map[uint64]string{}}
	config := api.Config{Hosts: n, Clients: 1, Pairs: 100, Bounds: 200, Queue: 4, Window: 2, Group: 1, Keep: 9, MTU: 64, Net: 9, Patience: 1, Tries: 1}
	for self := range n {
		c, e := core.New(config, api.Addr(self))
		isErr(t, e, api.OK)
		h.cores = append(h.cores, c)
	}
	return h
}

func (h *hosts) send(from api.Addr, outs []api.Out) {
	for _, o := range outs {
		h.way = append(h.way, mail{from, o})
	}
}

// shard lets the admin ask a host to hand on a range of its keys, and all come to rest.
func (h *hosts) shard() {
	lo := uint64(h.rnd.Intn(200))
	from, to := api.Addr(h.rnd.Intn(len(h.cores))), api.Addr(h.rnd.Intn(len(h.cores)))
	for _, s := range h.cores[from].State().Table {
		if s.Host == from && h.rnd.Intn(2) == 0 {
			lo = max(s.Lo, min(s.Hi, lo))
		}
	}
	m := api.Message{Kind: api.KShard, Seq: 1, Key: lo, Hi: lo + uint64(h.rnd.Intn(30)), Host: to}
	h.send(api.Admin, []api.Out{{To: from, M: m}})
	for len(h.way) > 0 {
		h.deliver(nil)
	}
}

// deliver takes one of the messages off the way, and gives it to whom it is for.
func (h *hosts) deliver(c *client.Client) {
	i := h.rnd.Intn(len(h.way))
	m := h.way[i]
	h.way = append(h.way[:i:i], h.way[i+1:]...)
	switch to := m.out.To; {
	case int(to) < len(h.cores):
		outs, _, _ := h.cores[to].Apply(m.from, m.out.M)
		h.send(to, outs)
	case to == 16 && c != nil:
		outs, _ := c.Take(m.from, m.out.M)
		h.send(16, outs)
	}
}

// isAnswered holds an answer against the map, which is changed as the request says.
func (h *hosts) isAnswered(r api.Request, o api.Outcome) {
	h.t.Helper()
	value, there := h.model[r.Key]
	want := api.StOK
	switch r.Kind {
	case api.KGet:
		if string(o.Value) != value {
			h.t.Errorf("get %d: %q; want %q", r.Key, o.Value, value)
		}
		fallthrough
	case api.KDelete:
		if !there {
			want = api.StMissing
		}
	case api.KCas:
		if there != r.Has || value != string(r.Old) {
			want = api.StDiffers
		}
	}
	if o.Status != want {
		h.t.Errorf("%+v: %+v; want status %d", r, o, want)
	}
	switch {
	case want != api.StOK || r.Kind == api.KGet:
	case r.Kind == api.KDelete:
		delete(h.model, r.Key)
	default:
		h.model[r.Key] = string(r.Value)
	}
}

func (h *hosts) request() api.Request {
	key := uint64(h.rnd.Intn(230))
	return []api.Request{get(key), get(key), set(key, "a"), set(key, "b"), del(key), cas(key, "a", "c"), create(key, "d")}[h.rnd.Intn(7)]
}

// When the hosts are at rest and nothing is lost, a client finds its answer behind at most hosts - 1 redirects, wherever it begins, and without a tick.
func TestFindsEveryKeyAtRest(t *testing.T) {
	most := 0
	for seed := range 40 {
		rnd := rand.New(rand.NewSource(int64(seed)))
		h := newHosts(t, rnd, 1+rnd.Intn(6))
		c := newClient(t, len(h.cores), 1, 1)
		for range 150 {
			if rnd.Intn(2) == 0 {
				h.shard()
			}
			if rnd.Intn(3) == 0 {
				isErr(t, c.Aim(api.Addr(rnd.Intn(len(h.cores)))), api.OK)
			}
			r := h.request()
			outs, e := c.Begin(r)
			isErr(t, e, api.OK)
			h.send(16, outs)
			for len(h.way) > 0 {
				h.deliver(c)
			}
			o := c.Outcome()
			if o.Phase != api.PhDone || o.Hops > len(h.cores)-1 || o.Sent != o.Hops+1 {
				t.Fatalf("%d hosts: %+v: %+v", len(h.cores), r, o)
			}
			h.isAnswered(r, o)
			most = max(most, o.Hops)
		}
	}
	if most < 3 {
		t.Errorf("no more than %d redirects", most)
	}
}

// Where most messages are lost, doubled and mixed, what a client is told is still what its request did, once.
func TestAnswersOverALossyWay(t *testing.T) {
	sent, hops := 0, 0
	for seed := range 40 {
		rnd := rand.New(rand.NewSource(int64(seed)))
		h := newHosts(t, rnd, 1+rnd.Intn(5))
		c := newClient(t, len(h.cores), 2, 64)
		var old []mail
		for range 60 {
			h.way = nil
			if rnd.Intn(2) == 0 {
				h.shard()
			}
			r := h.request()
			outs, e := c.Begin(r)
			isErr(t, e, api.OK)
			h.send(16, outs)
			for c.Outcome().Phase == api.PhWaiting {
				if len(h.way) == 0 || rnd.Intn(3) == 0 {
					h.send(16, c.Tick())
					continue
				}
				switch i := rnd.Intn(len(h.way)); rnd.Intn(4) {
				case 0:
					h.way = append(h.way[:i:i], h.way[i+1:]...)
				case 1:
					h.way = append(h.way, h.way[i])
				case 2:
					if len(old) > 0 {
						h.way = append(h.way, old[rnd.Intn(len(old))])
					}
				}
				if len(h.way) > 0 {
					old = append(old, h.way...)[max(0, len(old)+len(h.way)-20):]
					h.deliver(c)
				}
			}
			o := c.Outcome()
			if o.Phase == api.PhUnknown {
				break // nobody knows what the map is now
			}
			h.isAnswered(r, o)
			sent, hops = max(sent, o.Sent), max(hops, o.Hops)
		}
	}
	if sent < 6 || hops < 3 {
		t.Errorf("no request was sent more than %d times, or redirected more than %d times", sent, hops)
	}
}
