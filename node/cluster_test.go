package node_test

import (
	"fmt"
	"math/rand"
	"slices"
	"testing"

	"shard/api"
	"shard/node"
	"shard/wire"
)

// play is a cluster's hosts and all datagrams that are between them: they come late, often or never. Hosts crash at any time.
type play struct {
	c     api.Config
	nodes []*node.Node
	mail  []api.Datagram
	seqs  map[api.Addr]uint64
	told  map[string]string // what a client was told of a changing request
}

func newPlay(t *testing.T, c api.Config) *play {
	p := &play{c: c, seqs: map[api.Addr]uint64{}, told: map[string]string{}}
	for h := range c.Hosts {
		p.nodes = append(p.nodes, newNode(t, c, api.Addr(h)))
	}
	return p
}

// collect takes out of a node what it lets go.
func (p *play) collect(t *testing.T, h int) {
	t.Helper()
	list := p.nodes[h].Out()
	for _, d := range list {
		if int(d.To) < p.c.Hosts {
			p.mail = append(p.mail, d)
		}
	}
	for _, l := range letters(t, list) {
		p.hear(t, l)
	}
}

// hear wants that nobody is told two things of one request, whatever crashes there were, and that what was told is durable.
func (p *play) hear(t *testing.T, l letter) {
	t.Helper()
	if l.m.Kind != api.KReply || l.m.Of == api.KGet || l.m.Of == api.KScan {
		return
	}
	which := fmt.Sprint(l.to, " ", l.m.Seq)
	if before, there := p.told[which]; there && before != shown(l.m) {
		t.Fatalf("request %s was told %s, now %s", which, before, shown(l.m))
	}
	p.told[which] = shown(l.m)
	newest := uint64(0)
	for _, n := range p.nodes {
		for _, x := range n.Durable().Sessions {
			if x.Client == l.to {
				newest = max(newest, x.Seq)
			}
		}
	}
	if newest < l.m.Seq {
		t.Fatalf("request %s was told, but no disk knows of it", which)
	}
}

// take gives a datagram to its host, which may be down.
func (p *play) take(t *testing.T, d api.Datagram) {
	t.Helper()
	n := p.nodes[d.To]
	if e := n.Take(d.From, d.Data); e != api.OK && (e != api.ErrDown || n.Info().Up) {
		t.Fatalf("a datagram of a host's own: %d", e)
	}
}

// flights gives the live delegations.
func flights(states []api.HostState) []api.Message {
	var list []api.Message
	for i, s := range states {
		for j, q := range s.End.Peers {
			for k, payload := range q.Queue {
				if q.Acked+uint64(k)+1 > states[j].End.Peers[i].Delivered {
					d, _, _ := wire.Parse(payload)
					list = append(list, d)
				}
			}
		}
	}
	return list
}

// sumsUp wants of states that credits and claims go together.
func (p *play) sumsUp(t *testing.T, what string, states []api.HostState) {
	t.Helper()
	pairs, bounds := 0, 0
	var claims []api.Segment
	for _, s := range states {
		pairs += s.Free + len(s.Pairs)
		bounds += s.Spare + len(s.Table) - 1
		for _, g := range s.Table {
			if g.Host == s.Self {
				claims = append(claims, g)
			}
		}
	}
	for _, d := range flights(states) {
		pairs += int(d.Grant) + len(d.Pairs)
		bounds += int(d.Bounds) + 2
		claims = append(claims, api.Segment{Lo: d.Key, Hi: d.Hi})
	}
	if pairs != p.c.Hosts*p.c.Pairs || bounds != p.c.Hosts*p.c.Bounds {
		t.Fatalf("%s: %d pair credits, %d boundary credits", what, pairs, bounds)
	}
	slices.SortFunc(claims, func(a, b api.Segment) int {
		if a.Lo < b.Lo {
			return -1
		}
		return 1
	})
	next := uint64(0)
	for i, g := range claims {
		if g.Lo != next || i > 0 && next == 0 {
			t.Fatalf("%s: the claims leave keys out, or have some twice: %v", what, claims)
		}
		next = g.Hi + 1
	}
	if next != 0 {
		t.Fatalf("%s: the claims leave the highest keys out: %v", what, claims)
	}
}

// holds wants of the hosts' states, and of what their disks alone hold, that they go together.
func (p *play) holds(t *testing.T) {
	t.Helper()
	var now, durable []api.HostState
	for _, n := range p.nodes {
		now = append(now, n.State())
		durable = append(durable, n.Durable())
	}
	p.sumsUp(t, "now", now)
	p.sumsUp(t, "durable", durable)
}

// step does something at random.
func (p *play) step(t *testing.T, r *rand.Rand) {
	t.Helper()
	h := r.Intn(p.c.Hosts)
	n := p.nodes[h]
	switch r.Intn(12) {
	case 0, 1:
		lo := uint64(r.Intn(60))
		m := shard(lo, lo+uint64(r.Intn(30)), api.Addr(r.Intn(p.c.Hosts)), uint32(r.Intn(2)), 0)
		p.take(t, api.Datagram{From: api.Admin, To: api.Addr(h), Data: partsOf(m, 1024)[0]})
	case 2, 3:
		from := 16 + api.Addr(r.Intn(p.c.Clients))
		if r.Intn(3) > 0 { // else its last request comes once more
			p.seqs[from]++
		}
		seq := max(1, p.seqs[from])
		m := set(seq, seq%60, fmt.Sprint(seq))
		p.take(t, api.Datagram{From: from, To: api.Addr(h), Data: partsOf(m, 1024)[0]})
	case 4:
		n.Tick()
	case 5:
		n.Sync()
	case 6:
		n.Compact()
	case 7:
		n.Crash(r.Intn(400))
	case 8:
		n.Restart()
	default:
		for range min(4, len(p.mail)) {
			i := r.Intn(len(p.mail))
			d := p.mail[i]
			if r.Intn(4) > 0 {
				p.mail = slices.Delete(p.mail, i, i+1)
			}
			p.take(t, d)
		}
	}
	if r.Intn(2) == 0 {
		p.collect(t, h)
	}
}

// rest lets all hosts come up and everything arrive.
func (p *play) rest(t *testing.T) {
	t.Helper()
	for _, n := range p.nodes {
		n.Restart()
		n.Sync()
	}
	for range p.c.Queue + 1 {
		p.mail = nil
		for h, n := range p.nodes {
			n.Tick()
			p.collect(t, h)
		}
		for len(p.mail) > 0 {
			d := p.mail[0]
			p.mail = p.mail[1:]
			p.take(t, d)
			p.nodes[d.To].Sync()
			p.collect(t, int(d.To))
		}
		p.holds(t)
	}
	var states []api.HostState
	for _, n := range p.nodes {
		states = append(states, n.State())
	}
	if left := flights(states); len(left) > 0 {
		t.Fatalf("no rest: %s", brief(left))
	}
}

// TestP11_12Play: clusters that crash and lose: no answer and no delegation that has left is ever undone, on no disk.
func TestP11_12Play(t *testing.T) {
	moved := 0
	for seed := range 40 {
		r := rand.New(rand.NewSource(int64(seed)))
		c := wide()
		c.Hosts, c.Pairs, c.Bounds = 2+r.Intn(3), r.Intn(9), 4+r.Intn(9)
		c.Queue = 1 + r.Intn(3)
		c.Window = 1 + r.Intn(c.Queue)
		c.Group, c.Keep = 1+r.Intn(4), 1+r.Intn(6)
		c.MTU = []int{64, 100, 1024}[r.Intn(3)]
		p := newPlay(t, c)
		for range 200 {
			p.step(t, r)
			p.holds(t)
		}
		p.rest(t)
		for _, n := range p.nodes {
			moved += len(n.State().Table) - 1
		}
	}
	if moved < 40 {
		t.Errorf("only %d boundaries came to be", moved)
	}
}
