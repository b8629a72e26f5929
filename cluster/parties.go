package cluster

import (
	"shard/api"
	"shard/client"
	"shard/node"
	"shard/wire"
)

// party is whoever can take a datagram.
type party interface {
	Take(from api.Addr, data []byte) api.Errno
}

// host is a node on the network.
type host struct {
	node  *node.Node
	world *world
}

func newHost(self api.Addr, w *world) *host {
	n, _ := node.New(w.config, self)
	h := &host{n, w}
	h.post(api.OK)
	return h
}

// post sends what the node lets go behind a call, and passes on what that call answered.
func (h *host) post(answered api.Errno) api.Errno {
	for _, d := range h.node.Out() {
		h.world.send(d)
	}
	return answered
}

// Take takes a datagram.
func (h *host) Take(from api.Addr, data []byte) api.Errno { return h.post(h.node.Take(from, data)) }

func (h *host) tick() api.Errno { return h.post(h.node.Tick()) }

func (h *host) sync() api.Errno {
	_, e := h.node.Sync()
	return h.post(e)
}

func (h *host) compact() api.Errno { return h.post(h.node.Compact()) }

func (h *host) crash(keep int) api.Errno { return h.node.Crash(keep) }

func (h *host) restart() api.Errno { return h.post(h.node.Restart()) }

// asker is a client on the network.
type asker struct {
	desk
	client *client.Client
}

func newAsker(self api.Addr, w *world) *asker {
	k, _ := client.New(self, w.config.Hosts, w.config.Patience, w.config.Tries)
	return &asker{newDesk(self, w), k}
}

// Take takes a datagram.
func (a *asker) Take(from api.Addr, data []byte) api.Errno {
	m, whole, e := a.open(from, data)
	if !whole {
		return e
	}
	waited := a.waits()
	outs, e := a.client.Take(from, m)
	if now := a.client.Outcome(); waited && now.Phase == api.PhDone {
		a.note(api.Event{Kind: api.EvReturn, Seq: now.Seq, Out: now})
	}
	a.send(outs)
	return e
}

func (a *asker) waits() bool { return a.client.Outcome().Phase == api.PhWaiting }

// noteGivenUp makes the event that the client does not wait for its request any more.
func (a *asker) noteGivenUp() {
	a.note(api.Event{Kind: api.EvGiveUp, Seq: a.client.Outcome().Seq})
}

func (a *asker) tick() api.Errno {
	a.joiner.Tick()
	waited := a.waits()
	outs := a.client.Tick()
	if waited && a.client.Outcome().Phase == api.PhUnknown {
		a.noteGivenUp()
	}
	a.send(outs)
	return api.OK
}

func (a *asker) begin(r api.Request) api.Errno {
	outs, e := a.client.Begin(r)
	if e != api.OK {
		return e
	}
	a.note(api.Event{Kind: api.EvInvoke, Seq: a.client.Outcome().Seq, Req: a.client.Request()})
	a.send(outs)
	return api.OK
}

func (a *asker) giveUp() api.Errno {
	e := a.client.GiveUp()
	if e == api.OK {
		a.noteGivenUp()
	}
	return e
}

// admin is the admin on the network.
type admin struct {
	desk
	shards uint64 // the last Shard's number
}

// Take takes a datagram.
func (a *admin) Take(from api.Addr, data []byte) api.Errno {
	m, whole, e := a.open(from, data)
	if !whole {
		return e
	}
	if !wire.Allowed(from, a.self, m.Kind) {
		return api.ErrFrom
	}
	a.note(api.Event{Kind: api.EvDone, Seq: m.Seq, Status: m.Status, Host: from})
	return api.OK
}

// ask sends a Shard, which gets the next number, to a host.
func (a *admin) ask(to api.Addr, shard api.Message) api.Errno {
	shard.Seq = a.shards + 1
	if e := wire.Check(shard); e != api.OK {
		return e
	}
	a.shards++
	a.note(api.Event{Kind: api.EvShard, Seq: shard.Seq, Host: to, Shard: shard})
	a.send([]api.Out{{To: to, M: shard}})
	return api.OK
}
