package client

import (
	"bytes"
	"slices"

	"shard/api"
	"shard/wire"
)

// taker is what a client does with a message of one sort, if a host sent it, it may be, and it has the number of the request under way; it answers what Take answers.
type taker func(*Client, api.Addr, api.Message) ([]api.Out, api.Errno)

// takerOf gives what is done with a kind of message, nil for a kind that is not for clients.
func takerOf(kind api.Kind) taker {
	takers := [...]taker{
		api.KReply:    (*Client).takeReply,
		api.KRedirect: (*Client).takeRedirect,
	}
	if int(kind) >= len(takers) {
		return nil
	}
	return takers[kind]
}

// Take takes a message; what is to be sent.
func (c *Client) Take(from api.Addr, m api.Message) ([]api.Out, api.Errno) {
	if !c.made() {
		return nil, api.ErrNil
	}
	take := takerOf(m.Kind)
	if take == nil || !c.waits() || !c.isHost(from) || m.Seq != c.outcome.Seq || wire.Check(m) != api.OK {
		return nil, api.ErrStray
	}
	return take(c, from, m)
}

// takeReply ends the request with its answer. Whoever was asked may give it: one that was asked earlier may have been slow.
func (c *Client) takeReply(from api.Addr, m api.Message) ([]api.Out, api.Errno) {
	if m.Of != c.request.Kind || m.Of == api.KScan && !answersScan(c.request, m) {
		return nil, api.ErrStray
	}
	c.outcome.Phase = api.PhDone
	c.outcome.Host = from
	c.outcome.Status = m.Status
	c.outcome.Value = bytes.Clone(m.Value)
	c.outcome.Pairs = copyPairs(m.Pairs)
	c.outcome.Hi = m.Hi
	return nil, api.OK
}

// answersScan tells whether a reply keeps within what a scan asks for. That no pair is above the reply's Hi holds already: else it could not be.
func answersScan(r api.Request, m api.Message) bool {
	if m.Hi < r.Key || m.Hi > r.Hi || len(m.Pairs) > int(r.Limit) {
		return false
	}
	return !slices.ContainsFunc(m.Pairs, func(p api.Pair) bool { return p.Key < r.Key })
}

// takeRedirect remembers a redirect, and follows it unless that leads back to a host that has been asked since the last try.
func (c *Client) takeRedirect(from api.Addr, m api.Message) ([]api.Out, api.Errno) {
	key := c.request.Key
	if from != c.outcome.Host || key < m.Key || key > m.Hi || !c.isHost(m.Host) || m.Host == from {
		return nil, api.ErrStray
	}
	// Refused only as too many segments: then the hints stay as they are.
	c.hints.Assign(m.Key, m.Hi, m.Host)
	if _, again := c.asked[m.Host]; again {
		return nil, api.OK
	}
	c.outcome.Hops++
	c.timeouts = 0
	return c.send(m.Host), api.OK
}
