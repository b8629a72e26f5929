package history

import "shard/api"

// notKnown is the End of a call whose outcome is not known.
const notKnown = -1

// lastPlace is the greatest place at which a call may begin or end.
const lastPlace = 1 << 62

// fault is what is wrong with a call or with a line. Those of calls come first, so that its number tells its error.
type fault int

const (
	noFault fault = iota

	// of a call by itself
	wrongClient  // no client asked
	wrongRequest // the request may not be with this number
	wrongPlaces  // it begins or ends at no place, or ends ahead of its begin
	wrongAnswer  // its request has no such answer

	// of a call with those ahead of it
	tooEarly   // it begins ahead of one of them
	sharedEnd  // it begins or ends where one of them ends
	lowNumber  // its client has had its number, or one above it
	clientBusy // its client has an earlier call that has not ended

	// of a line
	notEnded    // the text ends ahead of the line's end
	noCall      // it tells of a call that may not be
	writtenElse // Print writes the call in another way
)

func (f fault) errno() api.Errno {
	switch {
	case f == noFault:
		return api.OK
	case f < notEnded:
		return api.ErrCall
	}
	return api.ErrHisText
}

func isPlace(p int) bool { return p >= 0 && uint64(p) <= lastPlace }

// faultOf tells what is wrong with a call by itself.
func faultOf(c api.Call) fault {
	switch {
	case !isClient(c.Who):
		return wrongClient
	case !requestMayBe(c.Req, c.Seq):
		return wrongRequest
	case !placesMayBe(c):
		return wrongPlaces
	case !answerMayBe(c):
		return wrongAnswer
	}
	return noFault
}

func placesMayBe(c api.Call) bool {
	return isPlace(c.Begin) && (c.End == notKnown || isPlace(c.End) && c.End > c.Begin)
}

func answerMayBe(c api.Call) bool {
	if c.End == notKnown {
		return c.Status == 0 && len(c.Value) == 0
	}
	return answers(c.Req.Kind, api.Outcome{Status: c.Status, Value: c.Value})
}

// ahead is what the calls ahead of one in a list bar it from.
type ahead struct {
	from    int // the first place at which a call may begin still
	ends    map[int]struct{}
	clients [api.MaxClients]clientAhead
}

// clientAhead is what the calls of one client bar its next one from.
type clientAhead struct {
	number uint64 // of its last call
	from   int    // the first place behind the end of its last call
}

// faultBehind tells what is wrong with a call behind these. That its End is none of their Begins follows: it is above its own Begin, which is above them.
func (a *ahead) faultBehind(c api.Call) fault {
	own := a.clients[clientNumber(c.Who)]
	switch {
	case c.Begin < a.from:
		return tooEarly
	case a.hasEnd(c.Begin) || a.hasEnd(c.End):
		return sharedEnd
	case c.Seq <= own.number:
		return lowNumber
	case c.Begin < own.from:
		return clientBusy
	}
	return noFault
}

func (a *ahead) hasEnd(place int) bool {
	_, has := a.ends[place]
	return has
}

// add lays a call in which nothing is wrong behind the others. The ends of its client's calls ahead of the last one are below that one's begin.
func (a *ahead) add(c api.Call) {
	a.from = c.Begin + 1
	if isKnown(c) {
		a.ends[c.End] = struct{}{}
	}
	a.clients[clientNumber(c.Who)] = clientAhead{number: c.Seq, from: c.End + 1}
}

// Check tells whether calls may be, and the first that may not.
func Check(calls []api.Call) (int, api.Errno) {
	a := ahead{ends: map[int]struct{}{}}
	for i, c := range calls {
		f := faultOf(c)
		if f == noFault {
			f = a.faultBehind(c)
		}
		if f != noFault {
			return i, f.errno()
		}
		a.add(c)
	}
	return 0, api.OK
}
