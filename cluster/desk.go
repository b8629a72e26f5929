package cluster

import (
	"shard/api"
	"shard/frag"
	"shard/wire"
)

// desk is what the clients and the admin have alike: messages go out from it in fragments, and come in whole.
type desk struct {
	self    api.Addr
	world   *world
	joiner  *frag.Joiner
	packets uint64 // the last packet's number
}

func newDesk(self api.Addr, w *world) desk {
	j, _ := frag.New(api.JoinSlots, api.JoinAge)
	return desk{self: self, world: w, joiner: j}
}

// open takes a datagram; true, if a message is whole by it.
func (d *desk) open(from api.Addr, data []byte) (api.Message, bool, api.Errno) {
	packet, whole, e := d.joiner.Take(from, data)
	if !whole {
		return api.Message{}, false, e
	}
	m, _, e := wire.Parse(packet)
	return m, e == api.OK, e
}

func (d *desk) send(outs []api.Out) {
	for _, out := range outs {
		d.packets++
		packet, _ := wire.Marshal(out.M)
		parts, _ := frag.Split(packet, d.packets, d.world.config.MTU)
		for _, part := range parts {
			d.world.send(api.Datagram{From: d.self, To: out.To, Data: part})
		}
	}
}

// note makes an event of this party's.
func (d *desk) note(e api.Event) {
	e.Who = d.self
	d.world.note(e)
}
