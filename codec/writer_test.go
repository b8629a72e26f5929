package codec_test

import (
	"bytes"
	"math"
	"math/rand"
	"testing"

	"shard/api"
	"shard/codec"
)

func TestP2_1NewWriter(t *testing.T) {
	for _, limit := range []int{-1, -2, math.MinInt, api.MaxCodec + 1, math.MaxInt} {
		if w, e := codec.NewWriter(limit); w != nil || e != api.ErrArg {
			t.Errorf("NewWriter(%d): %v, %v", limit, w, e)
		}
	}
	for _, limit := range []int{0, 1, 4096, api.MaxCodec - 1, api.MaxCodec} {
		w := newWriter(t, limit)
		if b, e := w.Out(); len(b) != 0 || e != api.OK || w.Len() != 0 || w.Err() != api.OK {
			t.Errorf("a new writer of limit %d: %v, %v", limit, b, e)
		}
	}
}

func TestP2_2Bytes(t *testing.T) {
	for _, c := range []struct {
		th   thing
		want []byte
	}{
		{thing{kind: kindU16, x: 258}, []byte{1, 2}},
		{thing{kind: kindU32, x: 0x01020304}, []byte{1, 2, 3, 4}},
		{thing{kind: kindU64, x: 0x0102030405060708}, []byte{1, 2, 3, 4, 5, 6, 7, 8}},
		{thing{kind: kindVarint, x: 0}, []byte{0}},
		{thing{kind: kindVarint, x: 127}, []byte{127}},
		{thing{kind: kindVarint, x: 128}, []byte{128, 1}},
		{thing{kind: kindVarint, x: 300}, []byte{172, 2}},
		{thing{kind: kindVarint, x: 1<<64 - 1}, []byte{255, 255, 255, 255, 255, 255, 255, 255, 255, 1}},
		{thing{kind: kindSigned, x: 1<<64 - 3}, []byte{5}},
		{thing{kind: kindSigned, x: 3}, []byte{6}},
		{thing{kind: kindSigned, x: 1 << 63}, []byte{255, 255, 255, 255, 255, 255, 255, 255, 255, 1}},
		{thing{kind: kindBlock, bytes: []byte{9, 8}}, []byte{2, 9, 8}},
		{thing{kind: kindBlock}, []byte{0}},
	} {
		w := newWriter(t, 16)
		c.th.write(w)
		if b, e := w.Out(); !bytes.Equal(b, c.want) || e != api.OK {
			t.Errorf("%v: %v, %v, want %v", c.th, b, e, c.want)
		}
	}
	for _, th := range samples() {
		w := newWriter(t, 20000)
		th.write(w)
		if b, e := w.Out(); !bytes.Equal(b, th.doc()) || e != api.OK {
			t.Errorf("kind %d, %d, %d bytes: %v, %v", th.kind, th.x, len(th.bytes), b, e)
		}
	}
}

// Each thing fits just up to the limit, and is laid down whole or not at all.
func TestP2_2Limit(t *testing.T) {
	for _, th := range samples() {
		size := len(th.doc())
		for _, ahead := range []int{0, 1, 5} {
			w := newWriter(t, ahead+size)
			w.Raw(make([]byte, ahead))
			th.write(w)
			if w.Err() != api.OK || w.Len() != ahead+size {
				t.Errorf("kind %d, %d: %d bytes don't fit just up to the limit: %v", th.kind, th.x, size, w.Err())
			}
			if size == 0 {
				continue
			}
			w = newWriter(t, ahead+size-1)
			w.Raw(make([]byte, ahead))
			th.write(w)
			if b, e := w.Out(); w.Err() != api.ErrCodecFull || w.Len() != ahead || len(b) != 0 || e != api.ErrCodecFull {
				t.Errorf("kind %d, %d: one byte too few: %v, %d bytes stand, %v, %v", th.kind, th.x, w.Err(), w.Len(), b, e)
			}
		}
	}
}

func TestP2_2FullStays(t *testing.T) {
	w := newWriter(t, 4)
	w.U16(258)
	w.Flag(true)
	w.U16(7)
	for _, th := range samples() {
		th.write(w)
		if b, e := w.Out(); w.Err() != api.ErrCodecFull || w.Len() != 3 || len(b) != 0 || e != api.ErrCodecFull {
			t.Fatalf("behind the error, kind %d: %v, %d, %v, %v", th.kind, w.Err(), w.Len(), b, e)
		}
	}
}

func TestP2_2NoBytesAlwaysFit(t *testing.T) {
	for _, limit := range []int{0, 3} {
		w := newWriter(t, limit)
		w.Raw(make([]byte, limit))
		w.Raw(nil)
		w.Raw([]byte{})
		if w.Err() != api.OK || w.Len() != limit {
			t.Errorf("limit %d: %v, %d", limit, w.Err(), w.Len())
		}
		w.Block(nil)
		if w.Err() != api.ErrCodecFull || w.Len() != limit {
			t.Errorf("limit %d, an empty block has a byte: %v, %d", limit, w.Err(), w.Len())
		}
	}
}

func TestP2_2GreatestLimit(t *testing.T) {
	all := make([]byte, api.MaxCodec+1)
	for i := range all {
		all[i] = byte(i % 251)
	}
	w := newWriter(t, api.MaxCodec)
	w.Raw(all)
	if w.Err() != api.ErrCodecFull || w.Len() != 0 {
		t.Errorf("one more than the greatest limit: %v, %d", w.Err(), w.Len())
	}
	w = newWriter(t, api.MaxCodec)
	w.Block(all[:api.MaxCodec-4])
	if b, e := w.Out(); e != api.OK || len(b) != api.MaxCodec || !bytes.Equal(b[4:], all[:api.MaxCodec-4]) || !bytes.Equal(b[:4], docVarint(api.MaxCodec-4)) {
		t.Errorf("a block that fills the greatest limit: %d bytes, %v", len(b), e)
	}
	w.U8(1)
	if w.Err() != api.ErrCodecFull || w.Len() != api.MaxCodec {
		t.Errorf("a byte behind it: %v, %d", w.Err(), w.Len())
	}
}

// A writer against a plain list of bytes, asked at each step.
func TestP2_3OutChangesNothing(t *testing.T) {
	rnd := rand.New(rand.NewSource(23))
	for range 400 {
		limit := rnd.Intn(300)
		w := newWriter(t, limit)
		var want []byte
		err := api.OK
		for range 30 {
			th := randomThing(rnd)
			th.write(w)
			if err == api.OK {
				if more := th.doc(); len(want)+len(more) <= limit {
					want = append(want, more...)
				} else {
					err = api.ErrCodecFull
				}
			}
			b, e := w.Out()
			if w.Len() != len(want) || w.Err() != err || e != err {
				t.Fatalf("limit %d: %d, %v, %v, want %d, %v", limit, w.Len(), w.Err(), e, len(want), err)
			}
			if err == api.OK && !bytes.Equal(b, want) || err != api.OK && len(b) != 0 {
				t.Fatalf("limit %d, %v: %v, want %v", limit, err, b, want)
			}
			spoil(b)
		}
	}
}

func TestP2_4NilWriter(t *testing.T) {
	var w *codec.Writer
	for _, th := range samples() {
		th.write(w)
	}
	if b, e := w.Out(); len(b) != 0 || e != api.ErrNil || w.Len() != 0 || w.Err() != api.ErrNil {
		t.Errorf("%v, %v, %d, %v", b, e, w.Len(), w.Err())
	}
}

// R1: a writer that nobody made doesn't panic.
func TestUnmadeWriter(t *testing.T) {
	var w codec.Writer
	for _, th := range samples() {
		th.write(&w)
	}
	w.Out()
	w.Len()
	w.Err()
}

func TestP2_10WriterMemory(t *testing.T) {
	for _, kind := range []int{kindRaw, kindBlock} {
		in := append(make([]byte, 0, 40), 1, 2, 3)
		th := thing{kind: kind, bytes: in}
		want := bytes.Clone(th.doc())
		w := newWriter(t, 100)
		th.write(w)
		if !bytes.Equal(in, []byte{1, 2, 3}) {
			t.Errorf("kind %d changes what is handed in", kind)
		}
		spoil(in)
		a, _ := w.Out()
		b, _ := w.Out()
		if !apart(a, b) || !apart(a, in) {
			t.Errorf("kind %d: two answers, or an answer and what was handed in, share memory", kind)
		}
		spoil(a)
		_ = append(a, 77)
		w.U8(5)
		if c, e := w.Out(); !bytes.Equal(b, want) || !bytes.Equal(c, append(want, 5)) || e != api.OK {
			t.Errorf("kind %d: %v, %v, %v, want %v", kind, b, c, e, want)
		}
	}
}
