package cluster_test

import (
	"slices"
	"testing"

	"shard/api"
	"shard/audit"
	"shard/client"
	"shard/cluster"
	"shard/frag"
	"shard/node"
	"shard/plan"
	"shard/wire"
)

// docCluster says the chapter's rules once more, in other words than the package: one list is the network, one switch plays all steps, and the layout is asked key by key at all places where it may change.
type docCluster struct {
	c       api.Config
	nodes   []*node.Node
	clients []*client.Client
	joiners map[api.Addr]*frag.Joiner
	packets map[api.Addr]uint64
	shards  uint64
	net     []api.Datagram
	barred  []api.Link
	count   api.NetCount
	log     []api.Event
	number  int
}

func docNew(c api.Config) *docCluster {
	d := &docCluster{c: c, joiners: map[api.Addr]*frag.Joiner{}, packets: map[api.Addr]uint64{}}
	for h := range c.Hosts {
		n, e := node.New(c, api.Addr(h))
		if e != api.OK {
			panic(e)
		}
		d.nodes = append(d.nodes, n)
	}
	d.joiners[32], _ = frag.New(16, 8)
	for i := range c.Clients {
		a := 16 + api.Addr(i)
		k, e := client.New(a, c.Hosts, c.Patience, c.Tries)
		if e != api.OK {
			panic(e)
		}
		d.clients = append(d.clients, k)
		d.joiners[a], _ = frag.New(16, 8)
	}
	return d
}

func (d *docCluster) isHost(a api.Addr) bool { return int(a) < d.c.Hosts }

func (d *docCluster) isClient(a api.Addr) bool { return a >= 16 && int(a) < 16+d.c.Clients }

func (d *docCluster) isBarred(from, to api.Addr) bool {
	return slices.Contains(d.barred, api.Link{From: from, To: to})
}

// lay lays a datagram into the network; false, if it does not come in.
func (d *docCluster) lay(from, to api.Addr, data []byte) (bool, api.Errno) {
	switch {
	case d.isBarred(from, to):
		d.count.Barred++
		return false, api.ErrLossyBarred
	case len(d.net) == d.c.Net:
		d.count.Lost++
		return false, api.ErrLossyFull
	}
	d.net = append(slices.Clip(d.net), api.Datagram{From: from, To: to, Data: slices.Clone(data)})
	return true, api.OK
}

func (d *docCluster) send(from, to api.Addr, data []byte) {
	if in, _ := d.lay(from, to, data); in {
		d.count.Sent++
	}
}

func (d *docCluster) mail(from api.Addr, outs []api.Out) {
	for _, o := range outs {
		d.packets[from]++
		for _, b := range partsOf(o.M, d.packets[from], d.c.MTU) {
			d.send(from, o.To, b)
		}
	}
}

// empty sends what a node lets go.
func (d *docCluster) empty(a api.Addr) {
	for _, x := range d.nodes[a].Out() {
		d.send(x.From, x.To, x.Data)
	}
}

func (d *docCluster) event(e api.Event) {
	e.Step = d.number
	d.log = append(slices.Clip(d.log), e)
}

func (d *docCluster) step(s api.Step) api.Answer {
	logged, sent := len(d.log), d.count.Sent
	e := d.play(s)
	d.number++
	return api.Answer{Err: e, Sent: d.count.Sent - sent, Events: d.log[logged:]}
}

func (d *docCluster) play(s api.Step) api.Errno {
	switch s.Kind {
	case api.SBegin, api.SGiveUp:
		if !d.isClient(s.A) {
			return api.ErrStep
		}
		return d.ofClient(d.clients[s.A-16], s)
	case api.SShard:
		if !d.isHost(s.A) || s.N < 0 || s.N > 65535 || s.M < 0 || s.M > 65535 {
			return api.ErrStep
		}
		return d.shard(s)
	case api.SDeliver:
		return d.deliver(s.N, s.On)
	case api.SDrop:
		if s.N < 0 || s.N >= len(d.net) {
			return api.ErrLossyIndex
		}
		d.drop(s.N)
	case api.SInject:
		switch {
		case s.A < 33:
			return api.ErrLossySource
		case len(s.Data) == 0 || len(s.Data) > 1024:
			return api.ErrLossyLong
		}
		in, e := d.lay(s.A, s.B, s.Data)
		if in {
			d.count.Injected++
		}
		return e
	case api.STick:
		if d.isClient(s.A) {
			d.tickClient(s.A)
			return api.OK
		}
		return d.ofHost(s)
	case api.SSync, api.SCompact, api.SCrash, api.SRestart:
		return d.ofHost(s)
	case api.SBlock:
		d.barred = slices.DeleteFunc(d.barred, func(l api.Link) bool { return l.From == s.A && l.To == s.B })
		if s.On {
			d.barred = append(d.barred, api.Link{From: s.A, To: s.B})
		}
	case api.SClear:
		d.count.Dropped += len(d.net)
		d.net = nil
	case api.SSettle:
		return d.settle(s.N, s.Lo)
	case api.SPlan:
		if s.N <= 0 {
			return api.ErrStep
		}
		moves, e := d.plan()
		for i := 0; i < len(moves) && i < s.N; i++ {
			d.shard(shard(moves[i].From, moves[i].To, moves[i].Lo, moves[i].Hi, 0, 0))
		}
		return e
	default:
		return api.ErrStep
	}
	return api.OK
}

func (d *docCluster) ofClient(k *client.Client, s api.Step) api.Errno {
	if s.Kind == api.SGiveUp {
		e := k.GiveUp()
		if e == api.OK {
			d.event(api.Event{Kind: api.EvGiveUp, Who: s.A, Seq: k.Outcome().Seq})
		}
		return e
	}
	if s.On {
		if e := k.Aim(s.B); e != api.OK {
			return e
		}
	}
	outs, e := k.Begin(s.Req)
	if e == api.OK {
		d.event(api.Event{Kind: api.EvInvoke, Who: s.A, Seq: k.Outcome().Seq, Req: k.Request()})
		d.mail(s.A, outs)
	}
	return e
}

func (d *docCluster) tickClient(a api.Addr) {
	k := d.clients[a-16]
	d.joiners[a].Tick()
	was := k.Outcome().Phase
	outs := k.Tick()
	if was == api.PhWaiting && k.Outcome().Phase == api.PhUnknown {
		d.event(api.Event{Kind: api.EvGiveUp, Who: a, Seq: k.Outcome().Seq})
	}
	d.mail(a, outs)
}

func (d *docCluster) ofHost(s api.Step) api.Errno {
	if !d.isHost(s.A) {
		return api.ErrStep
	}
	var e api.Errno
	n := d.nodes[s.A]
	switch s.Kind {
	case api.STick:
		e = n.Tick()
	case api.SSync:
		_, e = n.Sync()
	case api.SCompact:
		e = n.Compact()
	case api.SCrash:
		return n.Crash(s.N)
	case api.SRestart:
		e = n.Restart()
	}
	d.empty(s.A)
	return e
}

func (d *docCluster) shard(s api.Step) api.Errno {
	m := api.Message{Kind: api.KShard, Seq: d.shards + 1, Key: s.Lo, Hi: s.Hi, Host: s.B, Grant: uint32(s.N), Bounds: uint32(s.M)}
	if e := wire.Check(m); e != api.OK {
		return e
	}
	d.shards++
	d.event(api.Event{Kind: api.EvShard, Who: 32, Seq: d.shards, Host: s.A, Shard: m})
	d.mail(32, []api.Out{{To: s.A, M: m}})
	return api.OK
}

func (d *docCluster) drop(i int) {
	d.net = append(slices.Clip(d.net[:i]), d.net[i+1:]...)
	d.count.Dropped++
}

func (d *docCluster) deliver(i int, keep bool) api.Errno {
	if i < 0 || i >= len(d.net) {
		return api.ErrLossyIndex
	}
	x := d.net[i]
	if d.isBarred(x.From, x.To) {
		return api.ErrLossyBarred
	}
	d.count.Delivered++
	if keep {
		d.count.Copied++
	} else {
		d.net = append(slices.Clip(d.net[:i]), d.net[i+1:]...)
	}
	if d.isHost(x.To) {
		e := d.nodes[x.To].Take(x.From, x.Data)
		d.empty(x.To)
		return e
	}
	joiner := d.joiners[x.To]
	if joiner == nil {
		return api.ErrDown
	}
	packet, whole, e := joiner.Take(x.From, x.Data)
	if !whole {
		return e
	}
	m, _, e := wire.Parse(packet)
	switch {
	case e != api.OK:
		return e
	case x.To == 32 && !wire.Allowed(x.From, 32, m.Kind):
		return api.ErrFrom
	case x.To == 32:
		d.event(api.Event{Kind: api.EvDone, Who: 32, Seq: m.Seq, Status: m.Status, Host: x.From})
		return api.OK
	}
	k := d.clients[x.To-16]
	was := k.Outcome().Phase
	outs, e := k.Take(x.From, m)
	if out := k.Outcome(); was == api.PhWaiting && out.Phase == api.PhDone {
		d.event(api.Event{Kind: api.EvReturn, Who: x.To, Seq: out.Seq, Out: out})
	}
	d.mail(x.To, outs)
	return e
}

func (d *docCluster) settle(rounds int, x uint64) api.Errno {
	if rounds < 1 || rounds > 64 {
		return api.ErrStep
	}
	for range rounds {
		for h, n := range d.nodes {
			if n.Info().Up {
				n.Tick()
				d.empty(api.Addr(h))
				n.Sync()
				d.empty(api.Addr(h))
			}
		}
		for len(d.net) > 0 {
			i := int(x / (1 << 33) % uint64(len(d.net)))
			x = x*6364136223846793005 + 1442695040888963407
			to := d.net[i].To
			if d.isBarred(d.net[i].From, to) {
				d.drop(i)
				continue
			}
			d.deliver(i, false)
			if d.isHost(to) && d.nodes[to].Info().Up {
				d.nodes[to].Sync()
				d.empty(to)
			}
		}
	}
	return api.OK
}

func (d *docCluster) picture() api.Picture {
	p := api.Picture{Config: d.c}
	for _, n := range d.nodes {
		p.Hosts = append(p.Hosts, n.State())
	}
	return p
}

func (d *docCluster) durable() api.Picture {
	p := api.Picture{Config: d.c}
	for _, n := range d.nodes {
		p.Hosts = append(p.Hosts, n.Durable())
	}
	return p
}

// plan asks for each place at which some table or flight begins or ends who claims the keys up to the next one.
func (d *docCluster) plan() ([]api.Move, api.Errno) {
	p := d.picture()
	live, _ := audit.Live(p)
	begins := []uint64{0}
	for _, s := range p.Hosts {
		for _, g := range s.Table {
			begins = append(begins, g.Lo)
		}
	}
	for _, f := range live {
		begins = append(begins, f.M.Key, f.M.Hi+1)
	}
	slices.Sort(begins)
	begins = slices.Compact(begins)
	var segs []api.Segment
	for i, lo := range begins {
		hi := top
		if i+1 < len(begins) {
			hi = begins[i+1] - 1
		}
		owner, claims := docOwner(p, live, lo)
		if claims != 1 || owner == api.NoOne {
			return nil, api.ErrLayout
		}
		if n := len(segs); n > 0 && segs[n-1].Host == owner {
			segs[n-1].Hi = hi
		} else {
			segs = append(segs, seg(lo, hi, owner))
		}
	}
	var keys []uint64
	for _, s := range p.Hosts {
		for _, x := range s.Pairs {
			keys = append(keys, x.Key)
		}
	}
	slices.Sort(keys)
	return plan.Moves(d.c.Hosts, segs, keys, 32)
}

// docOwner tells who owns a key, and how many claims there are on it.
func docOwner(p api.Picture, live []api.Flight, key uint64) (api.Addr, int) {
	owner, claims := api.NoOne, 0
	for _, s := range p.Hosts {
		for _, g := range s.Table {
			if g.Lo <= key && key <= g.Hi && g.Host == s.Self {
				owner = s.Self
				claims++
			}
		}
	}
	for _, f := range live {
		if f.M.Key <= key && key <= f.M.Hi {
			claims++
		}
	}
	return owner, claims
}

func (d *docCluster) told() told {
	a := told{Picture: d.picture(), Durable: d.durable(), Events: d.log, Net: d.net, Count: d.count}
	for _, k := range d.clients {
		a.Outcomes = append(a.Outcomes, k.Outcome())
		a.Hints = append(a.Hints, k.Hints())
	}
	for _, n := range d.nodes {
		a.Infos = append(a.Infos, n.Info())
		a.Disks = append(a.Disks, n.Disk())
	}
	a.Moves, a.NoPlan = d.plan()
	return a
}

// twin is a cluster and what the document says of it, step by step.
type twin struct {
	t *testing.T
	k *cluster.Cluster
	d *docCluster
}

func newTwin(t *testing.T, c api.Config) *twin {
	t.Helper()
	w := &twin{t, newCluster(t, c), docNew(c)}
	isTold(t, "at the start", tell(w.k), w.d.told())
	return w
}

// step plays a step; the cluster gets it with noise in the fields that its kind does not name.
func (w *twin) step(s api.Step, noise func(api.Step) api.Step) api.Answer {
	w.t.Helper()
	got, want := w.k.Step(noise(s)), w.d.step(s)
	isSame(w.t, brief(s), got, want)
	isTold(w.t, brief(s), tell(w.k), w.d.told())
	return got
}
