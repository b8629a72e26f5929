package history

import (
	"bytes"
	"cmp"
	"slices"

	"shard/api"
)

// moment is a place at which a call of the list begins or ends.
type moment struct {
	place int
	call  int
}

// unfolder makes a log of calls.
type unfolder struct {
	log  []api.Event
	open [api.MaxClients]uint64 // the number of the call that each client has open; 0: none
}

// Unfold makes a log of calls.
func Unfold(calls []api.Call) ([]api.Event, api.Errno) {
	if _, e := Check(calls); e != api.OK {
		return nil, e
	}
	var u unfolder
	for _, m := range momentsOf(calls) {
		c := calls[m.call]
		if m.place == c.Begin {
			u.begin(c)
		} else {
			u.end(c)
		}
	}
	return u.log, api.OK
}

// momentsOf gives the moments of calls, by rising places.
func momentsOf(calls []api.Call) []moment {
	var moments []moment
	for i, c := range calls {
		moments = append(moments, moment{c.Begin, i})
		if isKnown(c) {
			moments = append(moments, moment{c.End, i})
		}
	}
	slices.SortFunc(moments, func(a, b moment) int { return cmp.Compare(a.place, b.place) })
	return moments
}

// begin lets a client begin a call. What it has open still has no end, or it would have ended by now.
func (u *unfolder) begin(c api.Call) {
	open := &u.open[clientNumber(c.Who)]
	if *open > 0 {
		u.add(api.Event{Kind: api.EvGiveUp, Who: c.Who, Seq: *open})
	}
	u.add(api.Event{Kind: api.EvInvoke, Who: c.Who, Seq: c.Seq, Req: copyRequest(c.Req)})
	*open = c.Seq
}

func (u *unfolder) end(c api.Call) {
	out := api.Outcome{Phase: api.PhDone, Seq: c.Seq, Status: c.Status, Value: bytes.Clone(c.Value), Sent: 1}
	if c.Req.Kind == api.KScan {
		out.Hi = c.Req.Hi
	}
	u.add(api.Event{Kind: api.EvReturn, Who: c.Who, Seq: c.Seq, Out: out})
	u.open[clientNumber(c.Who)] = 0
}

// add lays an event behind the log.
func (u *unfolder) add(e api.Event) {
	e.Step = len(u.log)
	u.log = append(u.log, e)
}
