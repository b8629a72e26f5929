package wire

import (
	"shard/api"
	"shard/codec"
	"shard/text"
)

// A block is a field that is one string of bytes.
type block int

const (
	value block = iota
	payload
)

func (b block) name() string {
	if b == payload {
		return "payload"
	}
	return "value"
}

func (b block) get(m *api.Message) []byte {
	if b == payload {
		return m.Payload
	}
	return m.Value
}

func (b block) set(m *api.Message, x []byte) {
	if b == payload {
		m.Payload = x
		return
	}
	m.Value = x
}

func (b block) most() int {
	if b == payload {
		return api.MaxPayload
	}
	return api.MaxValue
}

// check: a value may be empty, a payload may not.
func (b block) check(m *api.Message) api.Errno {
	size := len(b.get(m))
	if size > b.most() || b == payload && size == 0 {
		return api.ErrField
	}
	return api.OK
}

func (b block) clear(m *api.Message) { b.set(m, nil) }

func (b block) put(to *codec.Writer, m *api.Message) { to.Block(b.get(m)) }

func (b block) take(from *body, m *api.Message) {
	b.set(m, from.block(b.most()))
	if e := b.check(m); e != api.OK {
		from.refuse(e)
	}
}

func (b block) print(m *api.Message) string { return text.Quote(string(b.get(m))) }

func (b block) read(from *line, m *api.Message) {
	b.set(m, from.quoted())
	if b.check(m) != api.OK {
		from.refuse()
	}
}

// expected is what a cas expects: Has and Old. A line has them as one field, bytes as two.
type expected struct{}

func (expected) name() string { return "old" }

func (expected) check(m *api.Message) api.Errno {
	if len(m.Old) > api.MaxValue || !m.Has && len(m.Old) > 0 {
		return api.ErrField
	}
	return api.OK
}

func (expected) clear(m *api.Message) {
	m.Has = false
	m.Old = nil
}

func (expected) put(to *codec.Writer, m *api.Message) {
	to.Flag(m.Has)
	if m.Has {
		to.Block(m.Old)
	}
}

func (expected) take(from *body, m *api.Message) {
	m.Has = from.flag()
	if m.Has {
		m.Old = from.block(api.MaxValue)
	}
}

// none is told of a cas that expects no value; no quoted text begins so.
const none = "none"

func (expected) print(m *api.Message) string {
	if !m.Has {
		return none
	}
	return text.Quote(string(m.Old))
}

func (x expected) read(from *line, m *api.Message) {
	if from.skip(none) {
		return
	}
	m.Has = true
	m.Old = from.quoted()
	if x.check(m) != api.OK {
		from.refuse()
	}
}
