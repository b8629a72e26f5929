package codec

import "shard/api"

// Writer lays down numbers and blocks, up to a limit; its first error stays.
type Writer struct {
	limit int
	bytes []byte
	err   api.Errno
}

// NewWriter makes a writer with room for limit bytes.
func NewWriter(limit int) (*Writer, api.Errno) {
	if limit < 0 || limit > api.MaxCodec {
		return nil, api.ErrArg
	}
	return &Writer{limit: limit}, api.OK
}

// fits tells whether a thing of size bytes may be laid down; if only the limit forbids it, that stays as the writer's error.
func (w *Writer) fits(size int) bool {
	if w == nil || w.err != api.OK {
		return false
	}
	if size > w.limit-len(w.bytes) {
		w.err = api.ErrCodecFull
		return false
	}
	return true
}

func (w *Writer) number(x uint64, size int) {
	if w.fits(size) {
		w.bytes = putNumber(w.bytes, x, size)
	}
}

// U8 lays down one byte.
func (w *Writer) U8(x uint8) { w.number(uint64(x), 1) }

// U16 lays down two bytes, the highest first.
func (w *Writer) U16(x uint16) { w.number(uint64(x), 2) }

// U32 lays down four bytes, the highest first.
func (w *Writer) U32(x uint32) { w.number(uint64(x), 4) }

// U64 lays down eight bytes, the highest first.
func (w *Writer) U64(x uint64) { w.number(x, 8) }

// Varint lays down a number in as few bytes as it needs.
func (w *Writer) Varint(x uint64) {
	if w.fits(varintSize(x)) {
		w.bytes = putVarint(w.bytes, x)
	}
}

// Signed lays down a signed number, zigzag, as a Varint.
func (w *Writer) Signed(x int64) {
	// The shift by 63 makes all bits 1 of a number below 0: -2x - 1 is 2x with all bits turned.
	w.Varint(uint64(x)<<1 ^ uint64(x>>63))
}

// Flag lays down 1 or 0.
func (w *Writer) Flag(x bool) {
	if x {
		w.U8(1)
		return
	}
	w.U8(0)
}

// Raw lays down bytes.
func (w *Writer) Raw(b []byte) {
	if w.fits(len(b)) {
		w.bytes = append(w.bytes, b...)
	}
}

// Block lays down a length and so many bytes.
func (w *Writer) Block(b []byte) {
	length := uint64(len(b))
	// Both are asked for at once: a length without its bytes may not stand.
	if w.fits(varintSize(length) + len(b)) {
		w.bytes = append(putVarint(w.bytes, length), b...)
	}
}

// Len tells how many bytes are laid down.
func (w *Writer) Len() int {
	if w == nil {
		return 0
	}
	return len(w.bytes)
}

// Err tells the first error.
func (w *Writer) Err() api.Errno {
	if w == nil {
		return api.ErrNil
	}
	return w.err
}

// Out gives the bytes.
func (w *Writer) Out() ([]byte, api.Errno) {
	if e := w.Err(); e != api.OK {
		return nil, e
	}
	return own(w.bytes), api.OK
}
