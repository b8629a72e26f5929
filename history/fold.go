package history

import (
	"bytes"

	"shard/api"
)

// desk is what Fold knows of a client.
type desk struct {
	number uint64 // of its last call; 0: it has made none
	open   int    // which call of the list it has open, from 1 on; 0: none
}

// folder makes calls of the events of a log.
type folder struct {
	calls []api.Call
	desks [api.MaxClients]desk
}

// Fold makes the calls of a log, and tells the place of the first event that does not follow.
func Fold(events []api.Event) ([]api.Call, int, api.Errno) {
	var f folder
	for place, event := range events {
		if !eventMayBe(event) {
			return nil, place, api.ErrEvent
		}
		if !f.take(place, event) {
			return nil, place, api.ErrMatch
		}
	}
	return f.calls, 0, api.OK
}

// take goes on by an event that may be, and tells whether it follows from those ahead of it.
func (f *folder) take(place int, e api.Event) bool {
	switch e.Kind {
	case api.EvInvoke:
		return f.begin(place, e)
	case api.EvReturn:
		return f.end(place, e)
	case api.EvGiveUp:
		return f.giveUp(e)
	}
	return true
}

func (f *folder) begin(place int, e api.Event) bool {
	d := &f.desks[clientNumber(e.Who)]
	if d.open > 0 || e.Seq <= d.number {
		return false
	}
	f.calls = append(f.calls, api.Call{Who: e.Who, Seq: e.Seq, Req: copyRequest(e.Req), Begin: place, End: notKnown})
	d.number, d.open = e.Seq, len(f.calls)
	return true
}

func (f *folder) end(place int, e api.Event) bool {
	d := &f.desks[clientNumber(e.Who)]
	if d.open == 0 || e.Seq != d.number {
		return false
	}
	c := &f.calls[d.open-1]
	if !fits(c.Req, e.Out) {
		return false
	}
	c.End, c.Status, c.Value = place, e.Out.Status, bytes.Clone(e.Out.Value)
	d.open = 0
	return true
}

// giveUp closes the client's open call, which stays as it was begun: its outcome is not known.
func (f *folder) giveUp(e api.Event) bool {
	d := &f.desks[clientNumber(e.Who)]
	if d.open == 0 || e.Seq != d.number {
		return false
	}
	d.open = 0
	return true
}
