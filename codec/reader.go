package codec

import "shard/api"

// Reader takes numbers and blocks from bytes; its first error stays.
type Reader struct {
	left []byte
	err  api.Errno
}

// NewReader makes a reader over a copy of bytes.
func NewReader(b []byte) (*Reader, api.Errno) {
	if len(b) > api.MaxCodec {
		return nil, api.ErrCodecBig
	}
	return &Reader{left: own(b)}, api.OK
}

// reads tells whether the reader may look at its bytes.
func (r *Reader) reads() bool { return r.Err() == api.OK }

// take gives the next size bytes, not copied; nothing, if an error stands or there are too few.
func (r *Reader) take(size int) []byte {
	if !r.reads() {
		return nil
	}
	if size > len(r.left) {
		r.Fail(api.ErrCodecShort)
		return nil
	}
	taken := r.left[:size]
	r.left = r.left[size:]
	return taken
}

// U8 takes one byte.
func (r *Reader) U8() uint8 { return uint8(getNumber(r.take(1))) }

// U16 takes two bytes.
func (r *Reader) U16() uint16 { return uint16(getNumber(r.take(2))) }

// U32 takes four bytes.
func (r *Reader) U32() uint32 { return uint32(getNumber(r.take(4))) }

// U64 takes eight bytes.
func (r *Reader) U64() uint64 { return getNumber(r.take(8)) }

// Varint takes a number that was laid down by Varint.
func (r *Reader) Varint() uint64 {
	if !r.reads() {
		return 0
	}
	x, size, e := getVarint(r.left)
	r.Fail(e)
	r.take(size)
	return x
}

// Signed takes a number that was laid down by Signed.
func (r *Reader) Signed() int64 {
	x := r.Varint()
	return int64(x>>1) ^ -int64(x&1)
}

// Flag takes a byte that is 0 or 1.
func (r *Reader) Flag() bool {
	if r.Left() > 0 && r.left[0] > 1 {
		r.Fail(api.ErrCodecFlag)
	}
	return r.U8() == 1
}

// Raw takes n bytes.
func (r *Reader) Raw(n int) []byte {
	if n < 0 {
		r.Fail(api.ErrArg)
	}
	return own(r.take(n))
}

// Block takes a length of at most most, and so many bytes.
func (r *Reader) Block(most int) []byte {
	if !r.reads() {
		return nil
	}
	if most < 0 {
		r.Fail(api.ErrArg)
		return nil
	}
	length, head, e := getVarint(r.left)
	switch {
	case e != api.OK:
		r.Fail(e)
	case length > uint64(most):
		r.Fail(api.ErrCodecMost)
	case length > uint64(len(r.left)-head):
		r.Fail(api.ErrCodecShort)
	default:
		return own(r.take(head + int(length))[head:])
	}
	return nil
}

// Fail lays in an error of the caller's, if there is none yet.
func (r *Reader) Fail(e api.Errno) {
	if r.reads() {
		r.err = e
	}
}

// Left tells how many bytes are left.
func (r *Reader) Left() int {
	if r == nil {
		return 0
	}
	return len(r.left)
}

// Err tells the first error.
func (r *Reader) Err() api.Errno {
	if r == nil {
		return api.ErrNil
	}
	return r.err
}

// Done tells the first error, or ErrCodecTrail if bytes are left.
func (r *Reader) Done() api.Errno {
	if !r.reads() {
		return r.Err()
	}
	if r.Left() > 0 {
		return api.ErrCodecTrail
	}
	return api.OK
}
