package cluster

import "shard/api"

// chance chooses among datagrams, by numbers that follow from its first one.
type chance uint64

// among chooses one of so many.
func (x *chance) among(count int) int {
	chosen := (uint64(*x) >> 33) % uint64(count)
	*x = *x*6364136223846793005 + 1442695040888963407
	return int(chosen)
}

func (c *Cluster) settle(s api.Step) api.Errno {
	if s.N < 1 || s.N > api.MaxRounds {
		return api.ErrStep
	}
	x := chance(s.Lo)
	for range s.N {
		c.settleOnce(&x)
	}
	return api.OK
}

// settleOnce is a round: all hosts tick, and all that comes of it is delivered. A host that is down refuses its ticks and syncs.
func (c *Cluster) settleOnce(x *chance) {
	for _, h := range c.hosts {
		h.tick()
		h.sync()
	}
	for net := c.world.net; net.Len() > 0; {
		c.bring(x.among(net.Len()))
	}
}

// bring takes the datagram of a place out of the network, and delivers it if its link lets it through.
func (c *Cluster) bring(place int) {
	d, e := c.world.net.Deliver(place, false)
	if e != api.OK {
		c.world.net.Drop(place)
		return
	}
	c.hand(d)
	if c.hasHost(d.To) {
		c.hosts[d.To].sync()
	}
}
