package core

import (
	"shard/api"
	"shard/ranges"
	"shard/store"
	"shard/wire"
	"shard/xonce"
)

// State tells what the core holds.
func (c *Core) State() api.HostState {
	if !c.made() {
		return api.HostState{}
	}
	pairs, _ := c.shelf.Scan(0, maxKey, c.shelf.Len())
	return api.HostState{
		Self:     c.self,
		Table:    c.table.List(),
		Pairs:    pairs,
		Sessions: c.listSessions(),
		Free:     c.free,
		Spare:    c.spare,
		End:      c.end.State(),
	}
}

// listSessions tells the sessions that there are, by rising client.
func (c *Core) listSessions() []api.Session {
	var there []api.Session
	for _, s := range c.sessions {
		if s.Seq > 0 {
			there = append(there, s)
		}
	}
	return there
}

// CheckState tells whether a state may be.
func CheckState(c api.Config, s api.HostState) api.Errno {
	_, e := Load(c, s)
	return e
}

// Load makes a core with a state.
func Load(c api.Config, s api.HostState) (*Core, api.Errno) {
	if CheckConfig(c) != api.OK {
		return nil, api.ErrConfig
	}
	if !givesOnlyTo(s.Table, c.Hosts) {
		return nil, api.ErrState
	}
	// What may be with this queue and window may be with the greatest ones: so a state that can be put together so is well-formed.
	made, fine := assemble(s, c.Hosts, c.Queue, c.Window)
	if !fine {
		return nil, api.ErrState
	}
	made.hosts, made.clients, made.window = c.Hosts, c.Clients, c.Window
	return made, api.OK
}

// givesOnlyTo tells whether all segments are of the first so many hosts.
func givesOnlyTo(segs []api.Segment, hosts int) bool {
	for _, g := range segs {
		if int(g.Host) >= hosts {
			return false
		}
	}
	return true
}

// isWellFormed tells whether a state may be under some configuration, its end's bounds being the greatest ones.
func isWellFormed(s api.HostState) bool {
	_, fine := assemble(s, len(s.End.Peers), api.MaxQueue, api.MaxQueue)
	return fine
}

// assemble puts the parts of a state together; false, if one of them may not be, or they do not go together.
func assemble(s api.HostState, hosts, queue, window int) (*Core, bool) {
	c := &Core{self: s.Self, free: s.Free, spare: s.Spare}
	fine := c.loadTable(s.Table) && c.loadPairs(s.Pairs) && c.loadSessions(s.Sessions) &&
		mayHold(s.Free, len(s.Pairs)) && mayHold(s.Spare, len(s.Table)) &&
		c.loadEnd(s.End, hosts, queue, window)
	return c, fine
}

// mayHold tells whether so many credits may lie beside so many that stand for something. It takes away, as a sum might wrap round.
func mayHold(credits, standing int) bool {
	return credits >= 0 && credits <= mostCredits-standing
}

func (c *Core) loadTable(segs []api.Segment) bool {
	table, e := ranges.Load(segs, api.MaxSegments)
	c.table = table
	// Neighbours of one host have become one.
	return e == api.OK && table.Len() == len(segs)
}

func (c *Core) loadPairs(pairs []api.Pair) bool {
	c.shelf, _ = store.NewShelf(api.MaxShelf)
	if c.shelf.Lay(pairs) != api.OK {
		return false
	}
	for _, p := range pairs {
		if c.table.Lookup(p.Key) != c.self {
			return false
		}
	}
	return true
}

func (c *Core) loadSessions(sessions []api.Session) bool {
	// A delegation of no pairs may have just those sessions that a host may.
	if wire.Check(api.Message{Kind: api.KDelegate, Sessions: sessions}) != api.OK {
		return false
	}
	for _, s := range sessions {
		c.sessions[s.Client-api.FirstClient] = s
	}
	return true
}

func (c *Core) loadEnd(s api.EndState, hosts, queue, window int) bool {
	end, e := xonce.Load(c.self, hosts, queue, window, s)
	c.end = end
	return e == api.OK && hasOnlyDelegations(s)
}

func hasOnlyDelegations(s api.EndState) bool {
	for _, p := range s.Peers {
		for _, payload := range p.Queue {
			if _, fine := delegationOf(payload); !fine {
				return false
			}
		}
		for _, f := range p.Early {
			if _, fine := delegationOf(f.Payload); !fine {
				return false
			}
		}
	}
	return true
}
