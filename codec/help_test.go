package codec_test

import (
	"bytes"
	"math/rand"
	"testing"
	"unsafe"

	"shard/api"
	"shard/codec"
)

func newWriter(t *testing.T, limit int) *codec.Writer {
	t.Helper()
	w, e := codec.NewWriter(limit)
	if w == nil || e != api.OK {
		t.Fatalf("NewWriter(%d): %v, %v", limit, w, e)
	}
	return w
}

func newReader(t *testing.T, b []byte) *codec.Reader {
	t.Helper()
	r, e := codec.NewReader(b)
	if r == nil || e != api.OK {
		t.Fatalf("NewReader of %d bytes: %v, %v", len(b), r, e)
	}
	return r
}

// The bytes of things as the chapter tells them, by division and without shifts.

func docNumber(x uint64, size int) []byte {
	out := make([]byte, size)
	for i := range out {
		out[size-1-i] = byte(x % 256)
		x /= 256
	}
	return out
}

func docVarint(x uint64) []byte {
	out := []byte{byte(x % 128)}
	for x /= 128; x > 0; x /= 128 {
		out[len(out)-1] += 128
		out = append(out, byte(x%128))
	}
	return out
}

func docSigned(x int64) []byte {
	switch {
	case x >= 0:
		return docVarint(2 * uint64(x))
	case x == -1<<63:
		return docVarint(1<<64 - 1)
	}
	return docVarint(2*uint64(-x) - 1)
}

func docBlock(b []byte) []byte { return append(docVarint(uint64(len(b))), b...) }

// docReadVarint is P2.6's varint: the number, its bytes, the error.
func docReadVarint(b []byte) (uint64, int, api.Errno) {
	end := 0
	for end < len(b) && end < 9 && b[end] >= 128 {
		end++
	}
	switch {
	case end == len(b):
		return 0, 0, api.ErrCodecShort
	case end == 9 && b[9] > 1:
		return 0, 0, api.ErrCodecWide
	case end > 0 && b[end] == 0:
		return 0, 0, api.ErrCodecPadded
	}
	var x uint64
	for i := end; i >= 0; i-- {
		x = x*128 + uint64(b[i]%128)
	}
	return x, end + 1, api.OK
}

// A thing is one of the nine kinds that are written and read.
type thing struct {
	kind  int
	x     uint64
	bytes []byte
}

const kinds = 9

const (
	kindU8 = iota
	kindU16
	kindU32
	kindU64
	kindVarint
	kindSigned
	kindFlag
	kindRaw
	kindBlock
)

func (th thing) doc() []byte {
	switch th.kind {
	case kindU8, kindU16, kindU32, kindU64:
		return docNumber(th.x, 1<<th.kind)
	case kindVarint:
		return docVarint(th.x)
	case kindSigned:
		return docSigned(int64(th.x))
	case kindFlag:
		return []byte{byte(th.x % 2)}
	case kindRaw:
		return th.bytes
	}
	return docBlock(th.bytes)
}

func (th thing) write(w *codec.Writer) {
	switch th.kind {
	case kindU8:
		w.U8(uint8(th.x))
	case kindU16:
		w.U16(uint16(th.x))
	case kindU32:
		w.U32(uint32(th.x))
	case kindU64:
		w.U64(th.x)
	case kindVarint:
		w.Varint(th.x)
	case kindSigned:
		w.Signed(int64(th.x))
	case kindFlag:
		w.Flag(th.x%2 == 1)
	case kindRaw:
		w.Raw(th.bytes)
	case kindBlock:
		w.Block(th.bytes)
	}
}

// read takes a thing of the same kind (and length) from r: whether it is the same one, and whether it is zero.
func (th thing) read(r *codec.Reader) (same, zero bool) {
	switch th.kind {
	case kindU8:
		x := r.U8()
		return x == uint8(th.x), x == 0
	case kindU16:
		x := r.U16()
		return x == uint16(th.x), x == 0
	case kindU32:
		x := r.U32()
		return x == uint32(th.x), x == 0
	case kindU64:
		x := r.U64()
		return x == th.x, x == 0
	case kindVarint:
		x := r.Varint()
		return x == th.x, x == 0
	case kindSigned:
		x := r.Signed()
		return x == int64(th.x), x == 0
	case kindFlag:
		x := r.Flag()
		return x == (th.x%2 == 1), !x
	case kindRaw:
		b := r.Raw(len(th.bytes))
		return bytes.Equal(b, th.bytes), len(b) == 0
	}
	b := r.Block(len(th.bytes))
	return bytes.Equal(b, th.bytes), len(b) == 0
}

// samples are things of each kind, edges among them; none but the empty raw has no bytes.
func samples() []thing {
	var out []thing
	for kind := kindU8; kind <= kindFlag; kind++ {
		out = append(out, thing{kind: kind}, thing{kind: kind, x: 1<<64 - 1}, thing{kind: kind, x: 0xFEDCBA9876543201}, thing{kind: kind, x: 0x0123456789ABCDEF})
		for bit := range 64 {
			out = append(out, thing{kind: kind, x: 1 << bit}, thing{kind: kind, x: 1<<bit - 1}, thing{kind: kind, x: -(1 << bit)})
		}
	}
	for _, size := range []int{0, 1, 2, 126, 127, 128, 129, 300, 16383, 16384} {
		b := make([]byte, size)
		for i := range b {
			b[i] = byte(i*7 + size)
		}
		out = append(out, thing{kind: kindRaw, bytes: b}, thing{kind: kindBlock, bytes: b})
	}
	return append(out, thing{kind: kindRaw}, thing{kind: kindBlock})
}

func randomThing(rnd *rand.Rand) thing {
	b := make([]byte, rnd.Intn(4)*rnd.Intn(60))
	rnd.Read(b)
	return thing{rnd.Intn(kinds), rnd.Uint64() >> rnd.Intn(64), b}
}

// apart tells whether two lists share no memory, spare room included.
func apart(a, b []byte) bool {
	if cap(a) == 0 || cap(b) == 0 {
		return true
	}
	first := func(b []byte) uintptr { return uintptr(unsafe.Pointer(unsafe.SliceData(b))) }
	return first(a)+uintptr(cap(a)) <= first(b) || first(b)+uintptr(cap(b)) <= first(a)
}

// spoil writes into all of a list's room.
func spoil(b []byte) {
	b = b[:cap(b)]
	for i := range b {
		b[i] ^= 0xFF
	}
}
