package wire

import (
	"math"

	"shard/api"
	"shard/codec"
	"shard/text"
)

// A number is a field that is one number.
type number int

const (
	seq number = iota
	key
	hi
	limit
	of
	status
	host
	grant
	bounds
	mask
)

var numberNames = [...]string{seq: "seq", key: "key", hi: "hi", limit: "limit", of: "of", status: "status", host: "host", grant: "grant", bounds: "bounds", mask: "mask"}

func (n number) name() string { return numberNames[n] }

func (n number) get(m *api.Message) uint64 {
	switch n {
	case seq:
		return m.Seq
	case key:
		return m.Key
	case hi:
		return m.Hi
	case limit:
		return uint64(m.Limit)
	case of:
		return uint64(m.Of)
	case status:
		return uint64(m.Status)
	case host:
		return uint64(m.Host)
	case grant:
		return uint64(m.Grant)
	case bounds:
		return uint64(m.Bounds)
	}
	return m.Mask
}

func (n number) set(m *api.Message, x uint64) {
	switch n {
	case seq:
		m.Seq = x
	case key:
		m.Key = x
	case hi:
		m.Hi = x
	case limit:
		m.Limit = uint8(x)
	case of:
		m.Of = api.Kind(x)
	case status:
		m.Status = api.Status(x)
	case host:
		m.Host = api.Addr(x)
	case grant:
		m.Grant = uint32(x)
	case bounds:
		m.Bounds = uint32(x)
	case mask:
		m.Mask = x
	}
}

// allows tells whether the rules of fields let the number be x. It is asked ahead of set: what may not
// be need not go into the message's field either.
func (n number) allows(m *api.Message, x uint64) bool {
	switch n {
	case seq:
		return x >= 1 || m.Kind == api.KAck
	case hi:
		// A reply has no Key: it is 0 there.
		return x >= m.Key
	case limit:
		return 1 <= x && x <= api.MaxScan
	case of:
		return isRequest(api.Kind(x))
	case status:
		return saysStatus(m, api.Status(x))
	case host:
		return x < api.MaxHosts
	case grant, bounds:
		return x <= api.MaxGrant
	}
	return true
}

func (n number) check(m *api.Message) api.Errno {
	if n.allows(m, n.get(m)) {
		return api.OK
	}
	return api.ErrField
}

func (n number) clear(m *api.Message) { n.set(m, 0) }

func (n number) put(to *codec.Writer, m *api.Message) {
	x := n.get(m)
	switch n {
	case seq, grant, bounds:
		to.Varint(x)
	case key, hi, mask:
		to.U64(x)
	default:
		to.U8(uint8(x))
	}
}

func (n number) take(from *body, m *api.Message) {
	var x uint64
	switch n {
	case seq, grant, bounds:
		x = from.varint()
	case key, hi, mask:
		x = from.u64()
	default:
		x = uint64(from.u8())
	}
	if !n.allows(m, x) {
		from.refuse(api.ErrField)
	}
	n.set(m, x)
}

func (n number) print(m *api.Message) string {
	switch n {
	case of:
		return KindName(m.Of)
	case status:
		return statusName(m.Status)
	case mask:
		digits, _ := text.Digits(m.Mask, 2)
		return digits
	}
	return decimal(n.get(m))
}

func decimal(x uint64) string {
	digits, _ := text.Digits(x, 0)
	return digits
}

func (n number) read(from *line, m *api.Message) {
	var x uint64
	switch n {
	case of:
		x = uint64(kindOf(from.word()))
	case status:
		x = uint64(statusOf(from.word()))
	case mask:
		x = from.mask()
	default:
		x = from.number()
	}
	if !n.allows(m, x) {
		from.refuse()
	}
	n.set(m, x)
}

// A reach is a Hi behind a Key: its bytes tell only how far it is from there.
type reach struct{ number }

func (r reach) put(to *codec.Writer, m *api.Message) { to.Varint(m.Hi - m.Key) }

func (r reach) take(from *body, m *api.Message) {
	far := from.varint()
	if far > math.MaxUint64-m.Key {
		from.refuse(api.ErrField)
	}
	m.Hi = m.Key + far
}
