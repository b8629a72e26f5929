package cluster

import (
	"shard/api"
	"shard/audit"
	"shard/node"
	"shard/plan"
)

// Picture tells the state of all hosts.
func (c *Cluster) Picture() api.Picture { return c.pictureOf((*node.Node).State) }

// Durable tells the state that a crash of all hosts, which keeps nothing, would leave.
func (c *Cluster) Durable() api.Picture { return c.pictureOf((*node.Node).Durable) }

func (c *Cluster) pictureOf(state func(*node.Node) api.HostState) api.Picture {
	if !c.made() {
		return api.Picture{}
	}
	p := api.Picture{Config: c.world.config}
	for _, h := range c.hosts {
		p.Hosts = append(p.Hosts, state(h.node))
	}
	return p
}

// Events tells the log.
func (c *Cluster) Events() []api.Event {
	if !c.made() {
		return nil
	}
	return copyEvents(c.world.log)
}

// Net tells the datagrams in the network.
func (c *Cluster) Net() []api.Datagram {
	if !c.made() {
		return nil
	}
	return c.world.net.List()
}

// Count tells what the network did.
func (c *Cluster) Count() api.NetCount {
	if !c.made() {
		return api.NetCount{}
	}
	return c.world.net.Count()
}

// refusal tells why the cluster tells nothing of an address.
func (c *Cluster) refusal(a api.Addr, has func(*Cluster, api.Addr) bool) api.Errno {
	switch {
	case !c.made():
		return api.ErrNil
	case !has(c, a):
		return api.ErrArg
	}
	return api.OK
}

// Client tells how far a client is.
func (c *Cluster) Client(a api.Addr) (api.Outcome, api.Errno) {
	if e := c.refusal(a, (*Cluster).hasClient); e != api.OK {
		return api.Outcome{}, e
	}
	return c.client(a).client.Outcome(), api.OK
}

// Hints tells whom a client believes each key to be with.
func (c *Cluster) Hints(a api.Addr) ([]api.Segment, api.Errno) {
	if e := c.refusal(a, (*Cluster).hasClient); e != api.OK {
		return nil, e
	}
	return c.client(a).client.Hints(), api.OK
}

// Node tells what a host's state does not.
func (c *Cluster) Node(a api.Addr) (api.NodeInfo, api.Errno) {
	if e := c.refusal(a, (*Cluster).hasHost); e != api.OK {
		return api.NodeInfo{}, e
	}
	return c.hosts[a].node.Info(), api.OK
}

// Disk tells the durable bytes of a host.
func (c *Cluster) Disk(a api.Addr) (api.Disk, api.Errno) {
	if e := c.refusal(a, (*Cluster).hasHost); e != api.OK {
		return api.Disk{}, e
	}
	return c.hosts[a].node.Disk(), api.OK
}

// Plan tells the moves that would even the hosts out.
func (c *Cluster) Plan() ([]api.Move, api.Errno) {
	if !c.made() {
		return nil, api.ErrNil
	}
	// The hosts of a cluster are never so far at odds that audit would refuse their picture.
	p := c.Picture()
	holds, _ := audit.Owners(p)
	segs, all := segmentsOf(holds)
	if !all {
		return nil, api.ErrLayout
	}
	pairs, _ := audit.Union(p)
	return plan.Moves(len(c.hosts), segs, keysOf(pairs), api.MaxMove)
}

// segmentsOf gives the segments of ranges that have one owner each; false, if one has not. No two neighbours are of one host: they would have the same claims, and so be one range.
func segmentsOf(holds []api.Hold) ([]api.Segment, bool) {
	var segs []api.Segment
	for _, h := range holds {
		if len(h.Hosts) != 1 || len(h.Flights) > 0 {
			return nil, false
		}
		segs = append(segs, api.Segment{Lo: h.Lo, Hi: h.Hi, Host: h.Hosts[0]})
	}
	return segs, true
}

func keysOf(pairs []api.Pair) []uint64 {
	var keys []uint64
	for _, p := range pairs {
		keys = append(keys, p.Key)
	}
	return keys
}
