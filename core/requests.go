package core

import (
	"bytes"

	"shard/api"
	"shard/wire"
)

// settle answers a request that is not executed; false, if it is to be.
func (c *Core) settle(from api.Addr, m api.Message) ([]api.Out, bool) {
	home := c.table.Segment(m.Key)
	if home.Host != c.self {
		return send(from, api.Message{Kind: api.KRedirect, Seq: m.Seq, Key: home.Lo, Hi: home.Hi, Host: home.Host}), true
	}
	last := c.sessions[from-api.FirstClient]
	switch {
	case m.Seq < last.Seq:
		return nil, true
	case m.Seq == last.Seq && isChanging(m.Kind):
		return tellAgain(from, m, last.Status), true
	}
	return nil, false
}

func isChanging(kind api.Kind) bool {
	return kind == api.KSet || kind == api.KDelete || kind == api.KCas
}

// tellAgain answers a copy of a decided request. What has the same number need not be a copy: a status that no such request is told is not sent.
func tellAgain(from api.Addr, m api.Message, status api.Status) []api.Out {
	answer := reply(m, status)
	if wire.Check(answer) != api.OK {
		return nil
	}
	return send(from, answer)
}

func reply(m api.Message, status api.Status) api.Message {
	return api.Message{Kind: api.KReply, Seq: m.Seq, Of: m.Kind, Status: status}
}

func send(to api.Addr, m api.Message) []api.Out { return []api.Out{{To: to, M: m}} }

// change does what a Set, a Delete or a Cas asks for.
func (c *Core) change(from api.Addr, m api.Message) ([]api.Out, bool, api.Errno) {
	if answer, settled := c.settle(from, m); settled {
		return answer, false, api.OK
	}
	status := c.decide(m)
	c.sessions[from-api.FirstClient] = api.Session{Client: from, Seq: m.Seq, Status: status}
	return send(from, reply(m, status)), true, api.OK
}

// decide executes a changing request.
func (c *Core) decide(m api.Message) api.Status {
	value, there := c.shelf.Get(m.Key)
	switch m.Kind {
	case api.KDelete:
		if !there {
			return api.StMissing
		}
		c.shelf.Delete(m.Key)
		c.free++
	case api.KCas:
		// Without Has both Old and the value of a key that has none are empty.
		if there != m.Has || !bytes.Equal(value, m.Old) {
			return api.StDiffers
		}
		fallthrough
	case api.KSet:
		if !there && c.free == 0 {
			return api.StNoCredit
		}
		fresh, e := c.shelf.Set(m.Key, m.Value)
		if e != api.OK {
			return api.StNoCredit
		}
		if fresh {
			c.free--
		}
	}
	return api.StOK
}

// get tells the value of a key.
func (c *Core) get(from api.Addr, m api.Message) ([]api.Out, bool, api.Errno) {
	if answer, settled := c.settle(from, m); settled {
		return answer, false, api.OK
	}
	value, there := c.shelf.Get(m.Key)
	if !there {
		return send(from, reply(m, api.StMissing)), false, api.OK
	}
	answer := reply(m, api.StOK)
	answer.Value = value
	return send(from, answer), false, api.OK
}

// scan tells the pairs of a range, as far as they lie in the segment in which it begins.
func (c *Core) scan(from api.Addr, m api.Message) ([]api.Out, bool, api.Errno) {
	if answer, settled := c.settle(from, m); settled {
		return answer, false, api.OK
	}
	hi := min(m.Hi, c.table.Segment(m.Key).Hi)
	pairs, more := c.shelf.Scan(m.Key, hi, int(m.Limit))
	if more {
		hi = pairs[len(pairs)-1].Key
	}
	answer := reply(m, api.StOK)
	answer.Hi, answer.Pairs = hi, pairs
	return send(from, answer), false, api.OK
}
