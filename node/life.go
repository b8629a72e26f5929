package node

import (
	"shard/api"
	"shard/frag"
	"shard/journal"
	"shard/wire"
)

// perEpoch is how many numbers of packets an epoch has.
const perEpoch = 1 << 40

// recordFrame is what a record takes in a journal's slot beside its own bytes.
const recordFrame = 12

// life is what a node has from a start to the next crash.
type life struct {
	content
	journal  *journal.Journal
	joiner   *frag.Joiner
	sent     uint64 // packets
	held     []api.Datagram
	released []api.Datagram
}

// begin starts on a disk.
func (o owner) begin(d api.Disk) (*life, api.Errno) {
	j, found, fine := o.read(d)
	switch {
	case !fine:
		return nil, api.ErrDisk
	case found.epoch == api.MaxEpoch:
		return nil, api.ErrEpoch
	}
	found.epoch++
	if j.Snapshot(save(found)) != api.OK {
		return nil, api.ErrDisk
	}
	// Synced ahead of the first packet: no later start gives this epoch, and so no packet's number, once more.
	j.Sync()
	joiner, _ := frag.New(api.JoinSlots, api.JoinAge)
	return &life{content: found, journal: j, joiner: joiner}, api.OK
}

// take takes a datagram; if a packet is whole by it, the core takes its message.
func (l *life) take(from api.Addr, data []byte, o owner) api.Errno {
	// Room is asked for ahead: a message that has changed the core must be written down.
	if l.journal.Stat().Bytes+recordFrame+api.MaxRecord > api.MaxSlotSize {
		return api.ErrSlot
	}
	packet, whole, e := l.joiner.Take(from, data)
	if e != api.OK || !whole {
		return e
	}
	m, _, e := wire.Parse(packet)
	if e != api.OK {
		return e
	}
	outs, changed, e := l.core.Apply(from, m)
	if e != api.OK {
		return e
	}
	if changed {
		l.journal.Append(record(from, packet))
	}
	l.send(outs, o)
	return api.OK
}

// send lays messages into the outbox, in fragments; they are held back.
func (l *life) send(outs []api.Out, o owner) {
	for _, out := range outs {
		packet, _ := wire.Marshal(out.M)
		parts, _ := frag.Split(packet, l.number(), o.config.MTU)
		for _, part := range parts {
			l.held = append(l.held, api.Datagram{From: o.self, To: out.To, Data: part})
		}
		l.sent++
	}
}

// number gives the number of the next packet.
func (l *life) number() uint64 { return uint64(l.epoch)*perEpoch + l.sent%perEpoch }

// release lets all go out that is held back.
func (l *life) release() {
	l.released = append(l.released, l.held...)
	l.held = nil
}
