package audit_test

import (
	"fmt"
	"maps"
	"slices"
	"testing"

	"shard/api"
	"shard/audit"
	"shard/core"
)

// play is a cluster of cores whose messages come late, often or never.
type play struct {
	c     api.Config
	hosts []*core.Core
	mail  []letter
	seqs  [16]uint64
	model map[uint64]string // what the pairs of all are to be
}

type letter struct {
	from, to api.Addr
	m        api.Message
}

func newPlay(t *testing.T, c api.Config) *play {
	t.Helper()
	p := &play{c: c, model: map[uint64]string{}}
	for h := range c.Hosts {
		x, e := core.New(c, api.Addr(h))
		isSame(t, "core.New", e, api.OK)
		p.hosts = append(p.hosts, x)
	}
	return p
}

func (p *play) picture() api.Picture {
	out := api.Picture{Config: p.c}
	for _, x := range p.hosts {
		out.Hosts = append(out.Hosts, x.State())
	}
	return out
}

// bring applies a letter and keeps what is to be sent to a host; the status that a client is told.
func (p *play) bring(l letter) api.Status {
	outs, _, _ := p.hosts[l.to].Apply(l.from, l.m)
	status := api.Status(0)
	for _, o := range outs {
		if int(o.To) < p.c.Hosts {
			p.mail = append(p.mail, letter{l.to, o.To, o.M})
		} else if o.M.Kind == api.KReply {
			status = o.M.Status
		}
	}
	return status
}

// request lets a client ask for a change, and notes it.
func (p *play) request(d dice, keys uint64) {
	c := d.Intn(p.c.Clients)
	p.seqs[c]++
	m := api.Message{Kind: api.KSet, Seq: p.seqs[c], Key: d.Uint64() % keys, Value: []byte{byte('a' + d.Intn(3))}}
	if d.Intn(3) == 0 {
		m.Kind, m.Value = api.KDelete, nil
	}
	if p.bring(letter{16 + api.Addr(c), api.Addr(d.Intn(p.c.Hosts)), m}) != api.StOK {
		return
	}
	if m.Kind == api.KSet {
		p.model[m.Key] = string(m.Value)
	} else {
		delete(p.model, m.Key)
	}
}

func (p *play) step(d dice, keys uint64) {
	switch d.Intn(7) {
	case 0, 1:
		at := d.Intn(p.c.Hosts)
		table := p.hosts[at].State().Table
		g := table[d.Intn(len(table))]
		m := api.Message{Kind: api.KShard, Seq: 1, Key: g.Lo, Hi: g.Hi, Host: api.Addr(d.Intn(p.c.Hosts)), Grant: uint32(d.Intn(2)), Bounds: uint32(d.Intn(2))}
		if d.Intn(3) > 0 {
			m.Key, m.Hi = d.Uint64()%keys, keys
		}
		p.bring(letter{api.Admin, api.Addr(at), m})
	case 2, 3:
		p.request(d, keys)
	case 4:
		at := api.Addr(d.Intn(p.c.Hosts))
		for _, o := range p.hosts[at].Tick() {
			p.mail = append(p.mail, letter{at, o.To, o.M})
		}
	default:
		if len(p.mail) > 0 {
			i := d.Intn(len(p.mail))
			l := p.mail[i]
			if d.Intn(3) > 0 {
				p.mail = slices.Delete(p.mail, i, i+1)
			}
			p.bring(l)
		}
	}
}

// W2 and W3: in what cores come to, all goes together, whatever is lost; W1: the pairs of all are those that the requests made.
func TestWholePlays(t *testing.T) {
	flights := 0
	for seed := range 60 {
		d := diceOf(seed)
		c := configOf(1 + d.Intn(5))
		c.Clients, c.Pairs, c.Bounds = 3, 1+d.Intn(6), 2+d.Intn(9)
		c.Queue = 1 + d.Intn(4)
		c.Window = 1 + d.Intn(c.Queue)
		p := newPlay(t, c)
		for range 150 {
			before := p.picture()
			was := fmt.Sprint(p.model)
			p.step(d, 60)
			after := p.picture()
			found, e := audit.Check(after, 1+d.Intn(64))
			isShown(t, "Check", found, e, []api.Finding(nil), api.OK)
			isSame(t, "whether the pairs stayed", audit.Same(before, after), was == fmt.Sprint(p.model))
			union, e := audit.Union(after)
			var want []api.Pair
			for _, key := range slices.Sorted(maps.Keys(p.model)) {
				want = append(want, pair(key, p.model[key]))
			}
			isShown(t, "Union", union, e, want, api.OK)
			pairs, bounds, e := audit.Credits(after)
			isSame(t, "Credits", []any{pairs, bounds, e}, []any{c.Hosts * c.Pairs, c.Hosts * c.Bounds, api.OK})
			live, _ := audit.Live(after)
			flights += len(live)
		}
		isAsTheChapterSays(t, p.picture())
	}
	if flights < 1000 {
		t.Errorf("%d flights in all", flights)
	}
}

// A host that is set back behind what the others know of is found.
func TestWholeSetBack(t *testing.T) {
	found := 0
	for seed := range 60 {
		d := diceOf(seed)
		c := configOf(3)
		c.Clients, c.Pairs, c.Bounds = 3, 5, 9
		p := newPlay(t, c)
		for range 60 {
			p.step(d, 60)
		}
		before := p.picture()
		for range 60 {
			p.step(d, 60)
		}
		after := p.picture()
		h := d.Intn(3)
		after.Hosts[h] = before.Hosts[h]
		isAsTheChapterSays(t, after)
		if list, _ := audit.Check(after, 3); len(list) > 0 {
			found++
		}
	}
	if found < 30 {
		t.Errorf("found in %d of 60", found)
	}
}

// The work does not grow with the square of what is given: else these would not end in time.

// vast gives a picture at the limits: 16 hosts with tables of 8192 segments, all of them cut at other keys, shelves of 32768 pairs, and all queues full.
func vast(t *testing.T, m func(a, b, n int) api.Message) api.Picture {
	t.Helper()
	p := started(16)
	p.Config.Queue, p.Config.Window = 16, 16
	for h := range p.Hosts {
		s := &p.Hosts[h]
		s.Table, s.Pairs = make([]api.Segment, 8192), make([]api.Pair, 32768)
		for i := range s.Table {
			s.Table[i] = seg(uint64(i*16+h), uint64(i*16+h+15), api.Addr((h+i%2)%16))
		}
		s.Table[0].Lo, s.Table[8191].Hi = 0, top
		for i := range s.Pairs {
			s.Pairs[i] = api.Pair{Key: uint64(i*4 + h%4), Value: []byte{byte(h), byte(i)}}
		}
		for b := range p.Hosts {
			if b == h {
				continue
			}
			var payloads [][]byte
			for n := range 16 {
				payloads = append(payloads, packet(t, m(h, b, n)))
			}
			queued(&p, h, b, 0, payloads...)
		}
	}
	return p
}

// Every flight covers nearly all keys: their numbers range by range would be too much to hold, but Check needs but the count.
func TestVastCheck(t *testing.T) {
	value := make([]byte, 64)
	p := vast(t, func(a, b, n int) api.Message {
		m := delegate(uint64(a), top-uint64(b))
		for i := range uint64(32) {
			m.Pairs = append(m.Pairs, api.Pair{Key: 1000*i + uint64(16+a*b), Value: value})
		}
		return m
	})
	var found []api.Finding
	var union []api.Pair
	var errs [4]api.Errno
	var pairs, bounds int
	inTime(t, func() {
		found, errs[0] = audit.Check(p, 64)
		union, errs[1] = audit.Union(p)
		_, errs[2] = audit.Digests(p, 64)
		pairs, bounds, errs[3] = audit.Credits(p)
	})
	isSame(t, "errors", errs, [4]api.Errno{})
	isSame(t, "credits", []int{pairs, bounds}, []int{16*2 + 16*32768 + 3840*32, 16*3 + 16*8191 + 3840*2})
	own := 0
	for _, s := range p.Hosts {
		for i := range s.Pairs {
			if g := min(max(int(s.Pairs[i].Key)-int(s.Self), 0)/16, 8191); s.Table[g].Host == s.Self {
				own++
			}
		}
	}
	counts := map[api.FaultKind]int{}
	for _, f := range found {
		counts[f.Kind]++
	}
	isSame(t, "strays and sums", []int{counts[api.FaultStray], counts[api.FaultPairs], counts[api.FaultBounds], counts[api.FaultPayload]}, []int{16*32768 - own, 1, 1, 0})
	isSame(t, "the union's length", len(union), own+3840*32)
	// At nearly every key some host begins or ceases to own.
	if counts[api.FaultTwo] < 16*8191 {
		t.Errorf("%v", counts)
	}
}

// Short flights by the thousand, over tables of which each has another word at each key.
func TestVastOwners(t *testing.T) {
	p := vast(t, func(a, b, n int) api.Message {
		lo := uint64((a*16+b)*16+n) * 30
		return delegate(lo, lo+59)
	})
	var holds []api.Hold
	var live []api.Flight
	var e, f api.Errno
	inTime(t, func() {
		holds, e = audit.Owners(p)
		live, f = audit.Live(p)
	})
	isSame(t, "errors", []api.Errno{e, f}, []api.Errno{api.OK, api.OK})
	isSame(t, "flights", len(live), 3840)
	for i := 0; i < len(holds); i += 97 {
		hosts, flights := docClaims(p, live, holds[i].Lo)
		isShown(t, "claims", []any{holds[i].Hosts, holds[i].Flights}, api.OK, []any{hosts, flights}, api.OK)
		hosts, flights = docClaims(p, live, holds[i].Hi)
		isShown(t, "claims", []any{holds[i].Hosts, holds[i].Flights}, api.OK, []any{hosts, flights}, api.OK)
	}
	for i := 1; i < len(holds); i++ {
		if holds[i-1].Hi+1 != holds[i].Lo || slices.Equal(holds[i-1].Hosts, holds[i].Hosts) && slices.Equal(holds[i-1].Flights, holds[i].Flights) {
			t.Fatalf("%v, then %v", holds[i-1], holds[i])
		}
	}
	if len(holds) < 16*8191 {
		t.Errorf("%d ranges", len(holds))
	}
}
