package node

import (
	"bytes"

	"shard/api"
)

// Disk tells the durable bytes.
func (n *Node) Disk() api.Disk {
	switch {
	case !n.made():
		return api.Disk{}
	case n.isUp():
		return n.life.journal.Disk()
	}
	var d api.Disk
	for i, slot := range n.disk.Slots {
		d.Slots[i] = bytes.Clone(slot)
	}
	return d
}

// kept gives what the disk holds.
func (n *Node) kept() content {
	r := n.durable
	// To read a disk takes long, and callers that watch a cluster ask at every step.
	r.once.Do(func() { _, r.content, _ = n.owner.read(n.Disk()) })
	return r.content
}

// State tells what the host holds (a crashed one: what its disk holds).
func (n *Node) State() api.HostState {
	if n.isUp() {
		return n.life.core.State()
	}
	return n.Durable()
}

// Durable tells what a crash that keeps nothing would leave.
func (n *Node) Durable() api.HostState {
	if !n.made() {
		return api.HostState{}
	}
	return n.kept().core.State()
}

// Info tells the rest.
func (n *Node) Info() api.NodeInfo {
	switch {
	case !n.made():
		return api.NodeInfo{}
	case !n.isUp():
		return api.NodeInfo{Epoch: n.kept().epoch}
	}
	return api.NodeInfo{
		Up:      true,
		Epoch:   n.life.epoch,
		Held:    len(n.life.held),
		Partial: len(n.life.joiner.Slots()),
		Journal: n.life.journal.Stat(),
	}
}
