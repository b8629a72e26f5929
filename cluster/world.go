package cluster

import (
	"bytes"

	"shard/api"
	"shard/lossy"
)

// world is what all parties of a cluster share: the network, and the log.
type world struct {
	config api.Config
	net    *lossy.Net
	steps  int         // that have ended: the number of the one that is played
	log    []api.Event // of the steps that have ended
	fresh  []api.Event // of the step that is played
}

func newWorld(c api.Config) *world {
	net, _ := lossy.New(c.Net)
	return &world{config: c, net: net}
}

// send gives a datagram to the network. What it refuses is lost, and nobody is told.
func (w *world) send(d api.Datagram) { w.net.Send(d.From, d.To, d.Data) }

// note makes an event of the step that is played.
func (w *world) note(e api.Event) {
	e.Step = w.steps
	w.fresh = append(w.fresh, e)
}

// endStep lays the step's events into the log, and gives copies of them.
func (w *world) endStep() []api.Event {
	told := copyEvents(w.fresh)
	w.log = append(w.log, w.fresh...)
	w.fresh = nil
	w.steps++
	return told
}

func copyEvents(events []api.Event) []api.Event {
	var copied []api.Event
	for _, e := range events {
		// An event's other message, its Shard, has no lists.
		e.Req.Value = bytes.Clone(e.Req.Value)
		e.Req.Old = bytes.Clone(e.Req.Old)
		e.Out.Value = bytes.Clone(e.Out.Value)
		e.Out.Pairs = copyPairs(e.Out.Pairs)
		copied = append(copied, e)
	}
	return copied
}

func copyPairs(pairs []api.Pair) []api.Pair {
	var copied []api.Pair
	for _, p := range pairs {
		copied = append(copied, api.Pair{Key: p.Key, Value: bytes.Clone(p.Value)})
	}
	return copied
}
