package core_test

import (
	"fmt"
	"math/rand"
	"slices"
	"testing"

	"shard/api"
	"shard/core"
	"shard/wire"
)

// play is a cluster's hosts and all that was ever sent between them: it may come late, often or never.
type play struct {
	c     api.Config
	hosts []*core.Core
	docs  []*docCore
	mail  []letter
	seqs  map[api.Addr]uint64
}

type letter struct {
	from, to api.Addr
	m        api.Message
}

func newPlay(t *testing.T, c api.Config) *play {
	p := &play{c: c, seqs: map[api.Addr]uint64{}}
	for h := range c.Hosts {
		p.hosts = append(p.hosts, newCore(t, c, api.Addr(h)))
		p.docs = append(p.docs, newDoc(c, api.Addr(h)))
	}
	return p
}

// post keeps what is to be sent to a host.
func (p *play) post(from api.Addr, list []api.Out) {
	for _, o := range list {
		if int(o.To) < p.c.Hosts {
			p.mail = append(p.mail, letter{from, o.To, o.M})
		}
	}
}

// bring applies a letter, and holds host and document against each other and the whole against P10.13.
func (p *play) bring(t *testing.T, l letter) []api.Out {
	t.Helper()
	p.isAlone(t, l)
	got := holdApply(t, p.hosts[l.to], p.docs[l.to], l.from, l.m)
	p.post(l.to, got)
	p.sumsUp(t)
	return got
}

// isAlone wants that no delegation that is due finds a pair in its range.
func (p *play) isAlone(t *testing.T, l letter) {
	t.Helper()
	s := p.hosts[l.to].State()
	if l.m.Kind != api.KData || l.m.Seq <= s.End.Peers[l.from].Delivered {
		return
	}
	d, _, e := wire.Parse(l.m.Payload)
	if e != api.OK {
		t.Fatalf("a payload of a host's own: %d", e)
	}
	if l.m.Seq == s.End.Peers[l.from].Delivered+1 {
		for _, x := range s.Pairs {
			if d.Key <= x.Key && x.Key <= d.Hi {
				t.Fatalf("the delegation of %d to %d finds the pair %d", d.Key, d.Hi, x.Key)
			}
		}
	}
}

// flights gives the live delegations.
func flights(states []api.HostState) []api.Message {
	var list []api.Message
	for i, s := range states {
		for j, q := range s.End.Peers {
			for k, payload := range q.Queue {
				if q.Acked+uint64(k)+1 > states[j].End.Peers[i].Delivered {
					d, _, _ := wire.Parse(payload)
					list = append(list, d)
				}
			}
		}
	}
	return list
}

func (p *play) sumsUp(t *testing.T) {
	t.Helper()
	var states []api.HostState
	for _, n := range p.hosts {
		states = append(states, n.State())
	}
	pairs, bounds := 0, 0
	var claims []api.Segment
	for _, s := range states {
		pairs += s.Free + len(s.Pairs)
		bounds += s.Spare + len(s.Table) - 1
		for _, g := range s.Table {
			if g.Host == s.Self {
				claims = append(claims, g)
			}
		}
		if !docWellFormed(s) {
			t.Fatalf("host %d is not well-formed: %s", s.Self, brief(s))
		}
	}
	for _, d := range flights(states) {
		pairs += int(d.Grant) + len(d.Pairs)
		bounds += int(d.Bounds) + 2
		claims = append(claims, seg(d.Key, d.Hi, api.NoOne))
	}
	if pairs != p.c.Hosts*p.c.Pairs || bounds != p.c.Hosts*p.c.Bounds {
		t.Fatalf("%d pair credits, %d boundary credits", pairs, bounds)
	}
	slices.SortFunc(claims, func(a, b api.Segment) int {
		if a.Lo < b.Lo {
			return -1
		}
		return 1
	})
	next := uint64(0)
	for i, g := range claims {
		if g.Lo != next || i > 0 && next == 0 {
			t.Fatalf("the claims leave keys out, or have some twice: %v", claims)
		}
		next = g.Hi + 1
	}
	if next != 0 {
		t.Fatalf("the claims leave the highest keys out: %v", claims)
	}
}

// step does something at random.
func (p *play) step(t *testing.T, r *rand.Rand, keys uint64) {
	t.Helper()
	to := api.Addr(r.Intn(p.c.Hosts))
	switch r.Intn(8) {
	case 0, 1:
		lo := r.Uint64() % keys
		hi := lo + r.Uint64()%keys/2
		if r.Intn(4) == 0 { // a segment of its own, whole
			table := p.hosts[to].State().Table
			g := table[r.Intn(len(table))]
			lo, hi = g.Lo, g.Hi
		}
		p.bring(t, letter{api.Admin, to, shard(lo, hi, api.Addr(r.Intn(p.c.Hosts)), uint32(r.Intn(3)), uint32(r.Intn(2)))})
	case 2, 3:
		from := 16 + api.Addr(r.Intn(p.c.Clients))
		p.seqs[from]++
		key := r.Uint64() % keys
		for _, m := range []api.Message{set(p.seqs[from], key, fmt.Sprint(key%3)), del(p.seqs[from], key), fill(p.seqs[from], key, "1"), cas(p.seqs[from], key, "1", "2")}[r.Intn(4):][:1] {
			p.bring(t, letter{from, to, m})
		}
	case 4:
		p.post(to, p.hosts[to].Tick())
	default:
		if len(p.mail) == 0 {
			return
		}
		i := r.Intn(len(p.mail))
		l := p.mail[i]
		if r.Intn(3) > 0 {
			p.mail = slices.Delete(p.mail, i, i+1)
		}
		p.bring(t, l)
	}
}

// rest loses all that is on the way, and then lets everything come.
func (p *play) rest(t *testing.T) {
	t.Helper()
	for round := 0; ; round++ {
		p.mail = nil
		for h, n := range p.hosts {
			p.post(api.Addr(h), n.Tick())
		}
		if len(p.mail) == 0 {
			return
		}
		if round > p.c.Queue+1 {
			t.Fatalf("no rest after %d rounds", round)
		}
		for len(p.mail) > 0 {
			l := p.mail[0]
			p.mail = p.mail[1:]
			p.bring(t, l)
		}
	}
}

// isAtRest wants that every key has one owner, and that each host sends on to it by some hops.
func (p *play) isAtRest(t *testing.T, keys uint64) {
	t.Helper()
	for key := range keys {
		for at := range p.hosts {
			host, hops := api.Addr(at), 0
			for {
				got := must(t, p.hosts[host], 16, get(top, key))
				if got[0].M.Kind == api.KReply {
					break
				}
				if hops++; hops >= p.c.Hosts {
					t.Fatalf("key %d, asked at %d: %d redirects", key, at, hops)
				}
				host = got[0].M.Host
			}
		}
	}
}

func TestP10_13Play(t *testing.T) {
	for seed := range 40 {
		r := rand.New(rand.NewSource(int64(seed)))
		c := small()
		c.Hosts, c.Pairs, c.Bounds = 2+r.Intn(4), r.Intn(6), 2+r.Intn(9)
		c.Queue = 1 + r.Intn(4)
		c.Window = 1 + r.Intn(c.Queue)
		p := newPlay(t, c)
		for range 250 {
			p.step(t, r, 60)
		}
		p.rest(t)
		p.isAtRest(t, 60)
	}
}

// TestP10_13AllWays: three hosts, two Shards in a row, each of the messages that they lead to lost, brought or brought twice, in every order, to some depth.
func TestP10_13AllWays(t *testing.T) {
	c := small()
	c.Hosts, c.Bounds = 3, 9
	first := []letter{
		{16, 0, set(1, 5, "v")},
		{api.Admin, 0, shard(0, 9, 1, 1, 1)},
		{api.Admin, 0, shard(20, 29, 1, 0, 0)},
	}
	var follow func(done []letter, depth int)
	count := 0
	follow = func(done []letter, depth int) {
		p := newPlay(t, c)
		for _, l := range done {
			p.bring(t, l)
		}
		count++
		if depth == 0 {
			return
		}
		next := p.mail
		next = append(next, letter{api.Admin, 1, shard(3, 7, 2, 0, 0)}, letter{16, 1, del(2, 5)})
		for _, l := range next {
			follow(append(done[:len(done):len(done)], l), depth-1)
		}
	}
	follow(first, 4)
	if count < 100 {
		t.Errorf("only %d ways", count)
	}
}
