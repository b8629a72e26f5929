package wire

import (
	"math"
	"strings"

	"shard/api"
	"shard/codec"
	"shard/text"
)

// A pairList is the field Pairs. In a reply, which has no Key, they lie from 0 on.
type pairList struct{}

func (pairList) name() string { return "pairs" }

func mostPairs(kind api.Kind) int {
	if kind == api.KDelegate {
		return api.MaxMove
	}
	return api.MaxScan
}

func (pairList) check(m *api.Message) api.Errno {
	if len(m.Pairs) > mostPairs(m.Kind) {
		return api.ErrField
	}
	for _, p := range m.Pairs {
		if len(p.Value) > api.MaxValue {
			return api.ErrField
		}
	}
	if !inOrder(m) {
		return api.ErrOrder
	}
	return api.OK
}

// inOrder tells whether the pairs rise and lie within the message's range.
func inOrder(m *api.Message) bool {
	for i, p := range m.Pairs {
		if p.Key < m.Key || p.Key > m.Hi || i > 0 && p.Key <= m.Pairs[i-1].Key {
			return false
		}
	}
	return true
}

func (pairList) clear(m *api.Message) { m.Pairs = nil }

func (pairList) put(to *codec.Writer, m *api.Message) {
	to.Varint(uint64(len(m.Pairs)))
	for i, p := range m.Pairs {
		to.Varint(gapAhead(m, i))
		to.Block(p.Value)
	}
}

// gapAhead counts the keys that are left out ahead of a pair.
func gapAhead(m *api.Message, i int) uint64 {
	if i == 0 {
		return m.Pairs[0].Key - m.Key
	}
	return m.Pairs[i].Key - m.Pairs[i-1].Key - 1
}

func (pairList) take(from *body, m *api.Message) {
	for range from.count(mostPairs(m.Kind)) {
		k, ok := keyBehind(m, from.varint())
		if !ok {
			from.refuse(api.ErrOrder)
		}
		m.Pairs = append(m.Pairs, api.Pair{Key: k, Value: from.block(api.MaxValue)})
	}
}

// keyBehind gives the key that a gap behind the last pair leads to, and whether it lies within the range.
// It asks how much room there is up to Hi, since the key itself may be above all numbers.
func keyBehind(m *api.Message, gap uint64) (uint64, bool) {
	if len(m.Pairs) == 0 {
		return m.Key + gap, gap <= m.Hi-m.Key
	}
	last := m.Pairs[len(m.Pairs)-1].Key
	return last + 1 + gap, gap < m.Hi-last
}

func (pairList) print(m *api.Message) string {
	elements := make([]string, len(m.Pairs))
	for i, p := range m.Pairs {
		elements[i] = decimal(p.Key) + ":" + text.Quote(string(p.Value))
	}
	return bracketed(elements)
}

func bracketed(elements []string) string { return "[" + strings.Join(elements, ",") + "]" }

func (l pairList) read(from *line, m *api.Message) {
	from.list(func() {
		k := from.number()
		from.expect(":")
		m.Pairs = append(m.Pairs, api.Pair{Key: k, Value: from.quoted()})
	})
	if l.check(m) != api.OK {
		from.refuse()
	}
}

// A sessionList is the field Sessions.
type sessionList struct{}

func (sessionList) name() string { return "sessions" }

func (sessionList) check(m *api.Message) api.Errno {
	if len(m.Sessions) > api.MaxClients {
		return api.ErrField
	}
	rising := true
	for i, s := range m.Sessions {
		if !sessionMayBe(s) {
			return api.ErrField
		}
		rising = rising && (i == 0 || s.Client > m.Sessions[i-1].Client)
	}
	if !rising {
		return api.ErrOrder
	}
	return api.OK
}

func sessionMayBe(s api.Session) bool {
	return RoleOf(s.Client) == api.RoleClient && s.Seq >= 1 && keepsStatus(s.Status)
}

func (sessionList) clear(m *api.Message) { m.Sessions = nil }

func (sessionList) put(to *codec.Writer, m *api.Message) {
	to.Varint(uint64(len(m.Sessions)))
	for _, s := range m.Sessions {
		to.U8(uint8(s.Client))
		to.Varint(s.Seq)
		to.U8(uint8(s.Status))
	}
}

func (sessionList) take(from *body, m *api.Message) {
	for i := range from.count(api.MaxClients) {
		client := api.Addr(from.u8())
		if RoleOf(client) != api.RoleClient {
			from.refuse(api.ErrField)
		}
		if i > 0 && client <= m.Sessions[i-1].Client {
			from.refuse(api.ErrOrder)
		}
		s := api.Session{Client: client, Seq: from.varint()}
		if s.Seq == 0 {
			from.refuse(api.ErrField)
		}
		s.Status = api.Status(from.u8())
		if !keepsStatus(s.Status) {
			from.refuse(api.ErrField)
		}
		m.Sessions = append(m.Sessions, s)
	}
}

func (sessionList) print(m *api.Message) string {
	elements := make([]string, len(m.Sessions))
	for i, s := range m.Sessions {
		elements[i] = decimal(uint64(s.Client)) + ":" + decimal(s.Seq) + ":" + statusName(s.Status)
	}
	return bracketed(elements)
}

func (l sessionList) read(from *line, m *api.Message) {
	from.list(func() {
		client := from.number()
		if client > math.MaxUint8 {
			from.refuse()
		}
		from.expect(":")
		s := api.Session{Client: api.Addr(client), Seq: from.number()}
		from.expect(":")
		s.Status = statusOf(from.word())
		m.Sessions = append(m.Sessions, s)
	})
	if l.check(m) != api.OK {
		from.refuse()
	}
}
