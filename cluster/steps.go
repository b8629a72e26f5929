package cluster

import "shard/api"

// listPlays says of each kind of step how it is played.
func (c *Cluster) listPlays() map[api.StepKind]play {
	net := c.world.net
	return map[api.StepKind]play{
		api.SBegin:   c.forClient((*asker).playBegin),
		api.SGiveUp:  c.forClient(func(k *asker, _ api.Step) api.Errno { return k.giveUp() }),
		api.SShard:   c.shard,
		api.SDeliver: c.deliver,
		api.SDrop: func(s api.Step) api.Errno {
			_, e := net.Drop(s.N)
			return e
		},
		api.SInject:  func(s api.Step) api.Errno { return net.Inject(s.A, s.B, s.Data) },
		api.STick:    c.tick,
		api.SSync:    c.forHost(func(h *host, _ api.Step) api.Errno { return h.sync() }),
		api.SCompact: c.forHost(func(h *host, _ api.Step) api.Errno { return h.compact() }),
		api.SCrash:   c.forHost(func(h *host, s api.Step) api.Errno { return h.crash(s.N) }),
		api.SRestart: c.forHost(func(h *host, _ api.Step) api.Errno { return h.restart() }),
		api.SBlock:   c.block,
		api.SClear: func(api.Step) api.Errno {
			net.Empty()
			return api.OK
		},
		api.SSettle: c.settle,
		api.SPlan:   c.sendPlan,
	}
}

// forClient plays a step of client A's.
func (c *Cluster) forClient(do func(*asker, api.Step) api.Errno) play {
	return func(s api.Step) api.Errno {
		if !c.hasClient(s.A) {
			return api.ErrStep
		}
		return do(c.client(s.A), s)
	}
}

// forHost plays a step of host A's.
func (c *Cluster) forHost(do func(*host, api.Step) api.Errno) play {
	return func(s api.Step) api.Errno {
		if !c.hasHost(s.A) {
			return api.ErrStep
		}
		return do(c.hosts[s.A], s)
	}
}

func (a *asker) playBegin(s api.Step) api.Errno {
	if s.On {
		if e := a.client.Aim(s.B); e != api.OK {
			return e
		}
	}
	return a.begin(s.Req)
}

func (c *Cluster) shard(s api.Step) api.Errno {
	if !c.hasHost(s.A) || !isGrant(s.N) || !isGrant(s.M) {
		return api.ErrStep
	}
	return c.admin.ask(s.A, api.Message{Kind: api.KShard, Key: s.Lo, Hi: s.Hi, Host: s.B, Grant: uint32(s.N), Bounds: uint32(s.M)})
}

func isGrant(credits int) bool { return credits >= 0 && credits <= api.MaxGrant }

func (c *Cluster) deliver(s api.Step) api.Errno {
	d, e := c.world.net.Deliver(s.N, s.On)
	if e != api.OK {
		return e
	}
	return c.hand(d)
}

// hand gives a datagram to its receiver.
func (c *Cluster) hand(d api.Datagram) api.Errno {
	receiver, there := c.parties[d.To]
	if !there {
		return api.ErrDown
	}
	return receiver.Take(d.From, d.Data)
}

func (c *Cluster) tick(s api.Step) api.Errno {
	switch {
	case c.hasHost(s.A):
		return c.hosts[s.A].tick()
	case c.hasClient(s.A):
		return c.client(s.A).tick()
	}
	return api.ErrStep
}

func (c *Cluster) block(s api.Step) api.Errno {
	if s.On {
		return c.world.net.Block(s.A, s.B)
	}
	c.world.net.Heal(int(s.A), int(s.B))
	return api.OK
}

func (c *Cluster) sendPlan(s api.Step) api.Errno {
	if s.N < 1 {
		return api.ErrStep
	}
	moves, e := c.Plan()
	if e != api.OK {
		return e
	}
	for _, m := range moves[:min(s.N, len(moves))] {
		c.shard(api.Step{A: m.From, B: m.To, Lo: m.Lo, Hi: m.Hi})
	}
	return api.OK
}
