package core

import (
	"shard/api"
	"shard/wire"
)

// alongside is how many boundary credits go along with every delegation: taking it in may cost its receiver as many.
const alongside = 2

// mostCredits bounds a host's credits of each kind, those that stand for something too.
const mostCredits = 1 << 30

// shard hands a range on, if nothing stands against it.
func (c *Core) shard(from api.Addr, m api.Message) ([]api.Out, bool, api.Errno) {
	var outs []api.Out
	status := c.objection(m)
	if status == api.StOK {
		outs, status = c.handOn(m)
	}
	done := api.Out{To: from, M: api.Message{Kind: api.KDone, Seq: m.Seq, Status: status}}
	return append(outs, done), status == api.StOK, api.OK
}

// objection tells what stands against a Shard, but for what its receiver's queue has to say.
func (c *Core) objection(m api.Message) api.Status {
	switch {
	case int(m.Host) >= c.hosts:
		return api.StNoHost
	case m.Host == c.self:
		return api.StSelf
	case !c.table.Owns(m.Key, m.Hi, c.self):
		return api.StNotOwner
	case c.shelf.Count(m.Key, m.Hi) > api.MaxMove:
		return api.StMany
	case c.free < int(m.Grant):
		return api.StNoCredit
	}
	cost, _ := c.table.Cost(m.Key, m.Hi, m.Host)
	if c.spare < boundsOf(m)+cost || c.table.Len()+cost > c.table.Limit() {
		return api.StNoBound
	}
	return api.StOK
}

// boundsOf tells how many boundary credits a Shard or a delegation takes along.
func boundsOf(m api.Message) int { return int(m.Bounds) + alongside }

// handOn gives a range away. The end is asked first: if it takes no payload, nothing has changed.
func (c *Core) handOn(m api.Message) ([]api.Out, api.Status) {
	payload, _ := wire.Marshal(c.delegation(m))
	outs, e := c.end.Send(m.Host, payload)
	if e != api.OK {
		return nil, api.StQueue
	}
	c.shelf.Cut(m.Key, m.Hi)
	c.spare -= boundsOf(m) + c.assign(m, m.Host)
	c.free -= int(m.Grant)
	return outs, api.StOK
}

// delegation is what a Shard sends to its receiver.
func (c *Core) delegation(m api.Message) api.Message {
	pairs, _ := c.shelf.Scan(m.Key, m.Hi, api.MaxMove)
	return api.Message{Kind: api.KDelegate, Key: m.Key, Hi: m.Hi, Grant: m.Grant, Bounds: m.Bounds, Pairs: pairs, Sessions: c.listSessions()}
}

// assign gives a message's range to a host; by how many segments the table has grown.
func (c *Core) assign(m api.Message, to api.Addr) int {
	cost, _ := c.table.Cost(m.Key, m.Hi, to)
	c.table.Assign(m.Key, m.Hi, to)
	return cost
}

// data takes a payload of another host, and installs what is due.
func (c *Core) data(from api.Addr, m api.Message) ([]api.Out, bool, api.Errno) {
	if _, fine := delegationOf(m.Payload); !fine {
		return nil, false, api.ErrPayload
	}
	if c.crowded() {
		return nil, false, api.ErrCrowded
	}
	taken, e := c.end.Take(from, m)
	if e != api.OK {
		return nil, false, e
	}
	for _, up := range taken.Ups {
		if d, fine := delegationOf(up.Body); fine {
			c.install(d)
		}
	}
	return taken.Mails, taken.Changed, api.OK
}

// delegationOf gives the delegation that a payload is; false, if it is none.
func delegationOf(payload []byte) (api.Message, bool) {
	d, _, e := wire.Parse(payload)
	return d, e == api.OK && d.Kind == api.KDelegate
}

// crowded tells whether there is no room for as many delegations as one Data can bring: they are taken in whole, so room is asked for ahead.
func (c *Core) crowded() bool {
	return c.table.Limit()-c.table.Len() < c.window*alongside ||
		api.MaxShelf-c.shelf.Len() < c.window*api.MaxMove ||
		c.free+c.shelf.Len() > mostCredits-c.window*(api.MaxGrant+api.MaxMove) ||
		c.spare+c.table.Len() > mostCredits-c.window*(api.MaxGrant+alongside)
}

// install takes a delegation in: from now on its keys are this host's.
func (c *Core) install(d api.Message) {
	own, _ := c.shelf.Cut(d.Key, d.Hi)
	c.free += len(own) + int(d.Grant)
	c.spare += boundsOf(d) - c.assign(d, c.self)
	c.shelf.Lay(d.Pairs)
	for _, s := range d.Sessions {
		if here := &c.sessions[s.Client-api.FirstClient]; here.Seq < s.Seq {
			*here = s
		}
	}
}

// ack takes another host's word on what has come there.
func (c *Core) ack(from api.Addr, m api.Message) ([]api.Out, bool, api.Errno) {
	taken, e := c.end.Take(from, m)
	if e != api.OK {
		return nil, false, e
	}
	return taken.Mails, taken.Changed, api.OK
}
