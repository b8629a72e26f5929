package wire

import (
	"shard/api"
	"shard/codec"
)

const (
	magic    = 83
	version  = 1
	headSize = 3 // the magic, the version, the kind
	sumSize  = 4
)

// Size tells how many bytes Marshal gives.
func Size(m api.Message) (int, api.Errno) {
	b, e := Marshal(m)
	return len(b), e
}

// Marshal gives a message's bytes.
func Marshal(m api.Message) ([]byte, api.Errno) {
	if e := Check(m); e != api.OK {
		return nil, e
	}
	// No message that Check lets pass has more bytes than MaxMessage: the writer has no error.
	to, _ := codec.NewWriter(api.MaxMessage)
	to.U8(magic)
	to.U8(version)
	to.U8(uint8(m.Kind))
	each(&m, func(f field) { f.put(to, &m) })
	summed, _ := to.Out()
	to.U32(codec.Crc(summed))
	return to.Out()
}

// Parse gives the message of bytes, and the place of the first fault.
func Parse(b []byte) (m api.Message, at int, e api.Errno) {
	defer func() {
		if f, ok := recover().(fault); ok {
			m, at, e = api.Message{}, f.at, f.err
		}
	}()
	checkEnds(b)
	return takeFields(b), 0, api.OK
}

// checkEnds looks at what stands around the body.
func checkEnds(b []byte) {
	switch {
	case len(b) > api.MaxMessage:
		panic(fault{0, api.ErrBig})
	case len(b) < headSize+sumSize:
		panic(fault{len(b), api.ErrShape})
	case b[0] != magic:
		panic(fault{0, api.ErrMagic})
	case b[1] != version:
		panic(fault{1, api.ErrVersion})
	case !sumIsRight(b):
		panic(fault{len(b) - sumSize, api.ErrSum})
	case !isKind(api.Kind(b[2])):
		panic(fault{2, api.ErrKind})
	}
}

func sumIsRight(b []byte) bool {
	end := len(b) - sumSize
	sum, _ := codec.NewReader(b[end:])
	return sum.U32() == codec.Crc(b[:end])
}

// takeFields gives the message of bytes whose ends are right.
func takeFields(b []byte) api.Message {
	end := len(b) - sumSize
	left, _ := codec.NewReader(b[headSize:end])
	from := &body{left: left, end: end}
	m := api.Message{Kind: api.Kind(b[2])}
	each(&m, func(f field) { f.take(from, &m) })
	from.finish()
	return m
}

// A body is what stands between the head and the sum, taken field by field.
type body struct {
	left  *codec.Reader
	end   int // the place of the sum
	begin int // the place of the field that was taken last
}

// starts marks the place of a field.
func (b *body) starts() { b.begin = b.end - b.left.Left() }

// refuse tells the fault of the field that was taken last.
func (b *body) refuse(e api.Errno) { panic(fault{b.begin, e}) }

// whole takes a field, and refuses it if it cannot be taken.
func whole[T any](b *body, take func() T) T {
	b.starts()
	x := take()
	if b.left.Err() != api.OK {
		b.refuse(api.ErrShape)
	}
	return x
}

func (b *body) u8() uint8 { return whole(b, b.left.U8) }

func (b *body) u64() uint64 { return whole(b, b.left.U64) }

func (b *body) varint() uint64 { return whole(b, b.left.Varint) }

func (b *body) flag() bool { return whole(b, b.left.Flag) }

func (b *body) block(most int) []byte {
	return whole(b, func() []byte { return b.left.Block(most) })
}

// count takes the number of a list's elements.
func (b *body) count(most int) int {
	x := b.varint()
	if x > uint64(most) {
		b.refuse(api.ErrShape)
	}
	return int(x)
}

// finish refuses bytes that are left behind the last field.
func (b *body) finish() {
	b.starts()
	if b.left.Left() > 0 {
		b.refuse(api.ErrShape)
	}
}
