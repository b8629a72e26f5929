package client_test

import (
	"math/rand"
	"testing"

	"shard/api"
)

// calls are what short plays are made of. Hosts are told from the one that was asked last, so that most of what is played is not refused.
var calls = []func(w twin){
	func(w twin) { w.begin(get(7)) },
	func(w twin) { w.tick() },
	func(w twin) { w.giveUp() },
	func(w twin) { w.lead(0, 1) },
	func(w twin) { w.lead(0, 2) },
	func(w twin) { w.lead(1, 2) },
	func(w twin) { w.take(1, gotten(w.d.number, "v")) },
	func(w twin) { w.aim(2) },
}

// lead lets a host, so many behind the one asked, redirect to another.
func (w twin) lead(from, to int) {
	at := int(w.d.outcome().Host)
	w.take(api.Addr((at+from)%w.d.hosts), redirect(max(1, w.d.number), 7, 9, api.Addr((at+to)%w.d.hosts)))
}

// All plays of some calls behind a Begin, step by step against the document's client.
func TestAllShortPlays(t *testing.T) {
	const depth = 5
	for _, c := range []struct{ hosts, patience, tries int }{{3, 1, 3}, {2, 2, 2}} {
		plays := 1
		for range depth {
			plays *= len(calls)
		}
		for play := range plays {
			w := newTwin(t, c.hosts, c.patience, c.tries)
			w.begin(get(7))
			for rest, n := play, depth; n > 0; n-- {
				calls[rest%len(calls)](w)
				rest /= len(calls)
			}
		}
	}
}

// traffic plays random calls on a client and on the document's at once.
type traffic struct {
	twin
	rnd *rand.Rand
}

func (p traffic) key() uint64 {
	if p.rnd.Intn(8) == 0 {
		return top - uint64(p.rnd.Intn(3))
	}
	return uint64(p.rnd.Intn(400))
}

func (p traffic) bytes() []byte {
	b := make([]byte, []int{0, 1, 2, 9, 64, 65}[p.rnd.Intn(4+p.rnd.Intn(2)*p.rnd.Intn(3))])
	p.rnd.Read(b)
	return b
}

// host is mostly one that is there.
func (p traffic) host() api.Addr {
	if p.rnd.Intn(20) == 0 {
		return api.Addr(p.rnd.Intn(256))
	}
	return api.Addr(p.rnd.Intn(p.d.hosts))
}

// request mostly may be.
func (p traffic) request() api.Request {
	r := api.Request{Kind: api.Kind(1 + p.rnd.Intn(5)), Key: p.key()}
	switch r.Kind {
	case api.KSet:
		r.Value = p.bytes()
	case api.KCas:
		r.Value = p.bytes()
		if r.Has = p.rnd.Intn(2) == 0; r.Has {
			r.Old = p.bytes()
		}
	case api.KScan:
		r.Hi, r.Limit = p.key(), uint8(p.rnd.Intn(18))
		if p.rnd.Intn(4) > 0 {
			r.Hi = max(r.Hi, r.Key)
		}
	}
	switch p.rnd.Intn(12) {
	case 0:
		r.Kind = api.Kind(p.rnd.Intn(14))
	case 1:
		r.Hi = p.key()
	case 2:
		r.Value = p.bytes()
	}
	return r
}

// answer is mostly one to the request under way.
func (p traffic) answer() api.Message {
	r := p.d.request
	m := reply(p.d.number, r.Kind, api.Status(1+p.rnd.Intn(4)))
	switch {
	case r.Kind == api.KGet && m.Status == api.StOK:
		m.Value = p.bytes()
	case r.Kind == api.KScan:
		m.Status, m.Hi = api.StOK, r.Key+uint64(p.rnd.Intn(9))-1
		for key := r.Key + uint64(p.rnd.Intn(6)) - 1; p.rnd.Intn(4) > 0; key += uint64(1 + p.rnd.Intn(2)) {
			m.Pairs = append(m.Pairs, api.Pair{Key: key, Value: p.bytes()})
		}
	}
	return m
}

// message is mostly one that goes with the client's state, and from whom.
func (p traffic) message() (api.Addr, api.Message) {
	from, m := p.host(), p.answer()
	if p.rnd.Intn(10) > 0 {
		key := p.d.request.Key
		lo, hi := key-min(key, uint64(p.rnd.Intn(3)*p.rnd.Intn(5))), key+min(top-key, uint64(p.rnd.Intn(3)*p.rnd.Intn(5)))
		m = redirect(p.d.number, lo, hi, p.host())
		if p.rnd.Intn(9) > 0 {
			from = p.d.outcome().Host
		}
	}
	switch p.rnd.Intn(30) {
	case 0:
		spoilers[p.rnd.Intn(len(spoilers))](&m)
	case 1:
		m.Kind = api.Kind(p.rnd.Intn(14))
	case 2:
		m.Seq += uint64(p.rnd.Intn(3)) - 1
	case 3:
		m.Key, m.Hi = p.key(), p.key()
	}
	return from, m
}

// step plays one call, and spoils all that was handed in.
func (p traffic) step() {
	p.t.Helper()
	switch n := p.rnd.Intn(500); {
	case n < 150:
		r := p.request()
		p.begin(r)
		spoil(r.Value)
		spoil(r.Old)
	case n < 350:
		from, m := p.message()
		p.take(from, m)
		spoil(m.Value)
		spoilPairs(m.Pairs)
	case n < 470:
		p.tick()
	case n < 499:
		p.giveUp()
	default:
		p.aim(p.host())
	}
	p.sameTold("what was handed in")
}

func TestWhole(t *testing.T) {
	full, hops, ends := 0, 0, map[api.Phase]int{}
	for seed := range 60 {
		rnd := rand.New(rand.NewSource(int64(seed)))
		w := newTwin(t, []int{1, 2, 3, 3, 5, 16}[rnd.Intn(6)], 1+rnd.Intn(3), 1+rnd.Intn(6))
		p := traffic{w, rnd}
		for range 1000 {
			p.step()
			ends[w.d.phase]++
			hops = max(hops, w.d.count(redirected))
			if len(w.d.hints) >= mostHints-1 {
				full++
			}
		}
	}
	if full < 100 || hops < 5 || ends[api.PhDone] < 100 || ends[api.PhUnknown] < 100 || ends[api.PhWaiting] < 1000 {
		t.Errorf("%d steps with full hints, %d hops at most, phases %v", full, hops, ends)
	}
}
