package codec_test

import (
	"bytes"
	"math"
	"math/rand"
	"slices"
	"testing"

	"shard/api"
	"shard/codec"
)

func TestP2_5NewReader(t *testing.T) {
	big := make([]byte, api.MaxCodec+1)
	if r, e := codec.NewReader(big); r != nil || e != api.ErrCodecBig {
		t.Errorf("one past the limit: %v, %v", r, e)
	}
	if r := newReader(t, big[:api.MaxCodec]); r.Left() != api.MaxCodec || r.Err() != api.OK {
		t.Errorf("at the limit: %d, %v", r.Left(), r.Err())
	}
	for _, b := range [][]byte{nil, {}} {
		if r := newReader(t, b); r.Left() != 0 || r.Err() != api.OK || r.Done() != api.OK {
			t.Errorf("of no bytes: %d, %v, %v", r.Left(), r.Err(), r.Done())
		}
	}
}

func TestP2_5ReadsACopy(t *testing.T) {
	b := append(make([]byte, 0, 20), 1, 2, 3, 4)
	r := newReader(t, b)
	if !bytes.Equal(b, []byte{1, 2, 3, 4}) {
		t.Error("what is handed in is changed")
	}
	spoil(b)
	if x := r.U32(); x != 0x01020304 {
		t.Errorf("%x", x)
	}
}

// Each thing is read as it was written, and each shorter part of its bytes is too short.
func TestP2_6EachThing(t *testing.T) {
	for _, th := range samples() {
		whole := th.doc()
		r := newReader(t, append(bytes.Clone(whole), 0x55))
		if same, _ := th.read(r); !same || r.Left() != 1 || r.Err() != api.OK {
			t.Errorf("kind %d, %d, %d bytes: %v, %d left, %v", th.kind, th.x, len(th.bytes), same, r.Left(), r.Err())
		}
		if r.U8() != 0x55 || r.Done() != api.OK {
			t.Errorf("kind %d, %d: the reader doesn't stand behind it", th.kind, th.x)
		}
		for _, n := range []int{0, 1, 2, len(whole) / 2, len(whole) - 1} {
			if n < 0 || n >= len(whole) {
				continue
			}
			r := newReader(t, whole[:n])
			if _, zero := th.read(r); !zero || r.Left() != n || r.Err() != api.ErrCodecShort || r.Done() != api.ErrCodecShort {
				t.Errorf("kind %d, %d, %d of %d bytes: %v, %d left, %v", th.kind, th.x, n, len(whole), zero, r.Left(), r.Err())
			}
		}
	}
}

// An error that stands lets no call take anything or find another error.
func TestP2_6ErrorStays(t *testing.T) {
	for _, first := range samples() {
		r := newReader(t, []byte{1, 1, 1, 1, 1, 1, 1, 1, 1, 1})
		r.Flag()
		r.Raw(10)
		for _, th := range append([]thing{first}, samples()[:3]...) {
			if _, zero := th.read(r); !zero || r.Left() != 9 || r.Err() != api.ErrCodecShort {
				t.Fatalf("kind %d: %v, %d, %v", th.kind, zero, r.Left(), r.Err())
			}
		}
		if b := r.Raw(-1); len(b) != 0 || r.Err() != api.ErrCodecShort {
			t.Fatalf("Raw(-1): %v, %v", b, r.Err())
		}
		if b := r.Block(-1); len(b) != 0 || r.Err() != api.ErrCodecShort {
			t.Fatalf("Block(-1): %v, %v", b, r.Err())
		}
	}
	r := newReader(t, []byte{2})
	r.Flag()
	if r.Flag() || r.U8() != 0 || r.Varint() != 0 || r.Err() != api.ErrCodecFlag || r.Left() != 1 {
		t.Errorf("%v, %d", r.Err(), r.Left())
	}
}

func checkVarint(t *testing.T, b []byte) {
	t.Helper()
	want, size, err := docReadVarint(b)
	r := newReader(t, b)
	if x := r.Varint(); x != want || r.Err() != err || r.Left() != len(b)-size {
		t.Fatalf("Varint of %v: %d, %v, %d left; want %d, %v, %d", b, x, r.Err(), r.Left(), want, err, len(b)-size)
	}
	signed := int64(want / 2)
	if want%2 == 1 {
		signed = -signed - 1
	}
	r = newReader(t, b)
	if x := r.Signed(); x != signed || r.Err() != err || r.Left() != len(b)-size {
		t.Fatalf("Signed of %v: %d, %v, %d left; want %d, %v, %d", b, x, r.Err(), r.Left(), signed, err, len(b)-size)
	}
}

func TestP2_6Varint(t *testing.T) {
	checkVarint(t, nil)
	for i := range 256 {
		checkVarint(t, []byte{byte(i)})
		for j := range 256 {
			checkVarint(t, []byte{byte(i), byte(j)})
		}
	}
	for _, fill := range []byte{128, 129, 200, 255} {
		for long := range 13 {
			b := slices.Repeat([]byte{fill}, long)
			checkVarint(t, b)
			for last := range 256 {
				checkVarint(t, append(b, byte(last)))
				checkVarint(t, append(b, byte(last), 0))
				checkVarint(t, append(b, byte(last), 1))
				checkVarint(t, append(b, byte(last), 255))
			}
		}
	}
	rnd := rand.New(rand.NewSource(26))
	for range 50000 {
		b := make([]byte, rnd.Intn(14))
		for i := range b {
			b[i] = byte(rnd.Intn(256))
			if rnd.Intn(4) > 0 {
				b[i] |= 128
			}
		}
		checkVarint(t, b)
	}
}

func TestP2_6VarintEdges(t *testing.T) {
	nine := func(b byte, more ...byte) []byte { return append(slices.Repeat([]byte{b}, 9), more...) }
	for _, c := range []struct {
		b    []byte
		x    uint64
		err  api.Errno
		left int
	}{
		{[]byte{172, 2, 9}, 300, api.OK, 1},
		{nil, 0, api.ErrCodecShort, 0},
		{[]byte{128}, 0, api.ErrCodecShort, 1},
		{[]byte{128, 0}, 0, api.ErrCodecPadded, 2},
		{[]byte{0, 128}, 0, api.OK, 1},
		{nine(128), 0, api.ErrCodecShort, 9},
		{nine(128, 0), 0, api.ErrCodecPadded, 10},
		{nine(128, 1), 1 << 63, api.OK, 0},
		{nine(128, 2), 0, api.ErrCodecWide, 10},
		{nine(128, 127), 0, api.ErrCodecWide, 10},
		{nine(128, 128), 0, api.ErrCodecWide, 10},
		{nine(128, 129, 0), 0, api.ErrCodecWide, 11},
		{nine(128, 128, 0), 0, api.ErrCodecWide, 11},
		{nine(255, 1), math.MaxUint64, api.OK, 0},
		{nine(255, 1, 1), math.MaxUint64, api.OK, 1},
	} {
		r := newReader(t, c.b)
		if x := r.Varint(); x != c.x || r.Err() != c.err || r.Left() != c.left {
			t.Errorf("%v: %d, %v, %d", c.b, x, r.Err(), r.Left())
		}
	}
}

func TestP2_6Flag(t *testing.T) {
	for i := range 256 {
		r := newReader(t, []byte{byte(i), 1})
		x := r.Flag()
		switch {
		case i > 1 && (x || r.Err() != api.ErrCodecFlag || r.Left() != 2):
			t.Errorf("%d: %v, %v, %d", i, x, r.Err(), r.Left())
		case i <= 1 && (x != (i == 1) || r.Err() != api.OK || r.Left() != 1):
			t.Errorf("%d: %v, %v, %d", i, x, r.Err(), r.Left())
		}
	}
}

func TestP2_6Raw(t *testing.T) {
	for _, c := range []struct {
		have, n int
		err     api.Errno
	}{
		{0, 0, api.OK}, {3, 0, api.OK}, {3, 1, api.OK}, {3, 3, api.OK},
		{3, 4, api.ErrCodecShort}, {0, 1, api.ErrCodecShort}, {3, math.MaxInt, api.ErrCodecShort},
		{3, -1, api.ErrArg}, {0, -1, api.ErrArg}, {3, math.MinInt, api.ErrArg},
	} {
		all := []byte{7, 8, 9}[:c.have]
		r := newReader(t, all)
		var want []byte
		if c.err == api.OK {
			want = all[:c.n]
		}
		if b := r.Raw(c.n); !bytes.Equal(b, want) || r.Err() != c.err || r.Left() != c.have-len(want) {
			t.Errorf("Raw(%d) of %d bytes: %v, %v, %d", c.n, c.have, b, r.Err(), r.Left())
		}
	}
}

func TestP2_6Block(t *testing.T) {
	for _, c := range []struct {
		b    []byte
		most int
		err  api.Errno
	}{
		{[]byte{0}, 0, api.OK},
		{[]byte{2, 9, 8}, 2, api.OK},
		{[]byte{2, 9, 8}, math.MaxInt, api.OK},
		{[]byte{2, 9, 8}, 1, api.ErrCodecMost},
		{[]byte{2, 9, 8}, 0, api.ErrCodecMost},
		{[]byte{2, 9, 8}, -1, api.ErrArg},
		{[]byte{2, 9, 8}, math.MinInt, api.ErrArg},
		{nil, -1, api.ErrArg},
		{[]byte{128, 0}, -1, api.ErrArg},
		{nil, 0, api.ErrCodecShort},
		{[]byte{130}, 0, api.ErrCodecShort},
		{[]byte{130, 0, 1, 1}, 1, api.ErrCodecPadded},
		{append(slices.Repeat([]byte{128}, 9), 2), 1, api.ErrCodecWide},
		{append(slices.Repeat([]byte{255}, 9), 1), math.MaxInt, api.ErrCodecMost},
		{append(slices.Repeat([]byte{255}, 8), 127), math.MaxInt, api.ErrCodecShort},
		{append(slices.Repeat([]byte{255}, 8), 127, 3, 3), math.MaxInt - 1, api.ErrCodecMost},
		{append(slices.Repeat([]byte{128}, 9), 1), math.MaxInt, api.ErrCodecMost},
		{[]byte{5, 9}, 4, api.ErrCodecMost},
		{[]byte{2, 9}, 5, api.ErrCodecShort},
		{[]byte{2}, 2, api.ErrCodecShort},
		{[]byte{1}, 1, api.ErrCodecShort},
	} {
		r := newReader(t, c.b)
		b := r.Block(c.most)
		switch {
		case r.Err() != c.err:
			t.Errorf("Block(%d) of %v: %v, want %v", c.most, c.b, r.Err(), c.err)
		case c.err != api.OK && (len(b) != 0 || r.Left() != len(c.b)):
			t.Errorf("Block(%d) of %v: %v, %d left", c.most, c.b, b, r.Left())
		case c.err == api.OK && (!bytes.Equal(b, c.b[1:]) || r.Left() != 0):
			t.Errorf("Block(%d) of %v: %v, %d left", c.most, c.b, b, r.Left())
		}
	}
}

// What a writer laid down is read as it was, thing by thing, and a read of other kinds never takes more than is there.
func TestP2_6ThereAndBack(t *testing.T) {
	rnd := rand.New(rand.NewSource(27))
	for range 500 {
		w := newWriter(t, 10000)
		var things []thing
		for range rnd.Intn(30) {
			th := randomThing(rnd)
			th.write(w)
			things = append(things, th)
		}
		b, _ := w.Out()
		r := newReader(t, b)
		for _, th := range things {
			if same, _ := th.read(r); !same || r.Err() != api.OK {
				t.Fatalf("kind %d, %d, %v: %v", th.kind, th.x, th.bytes, r.Err())
			}
		}
		if r.Done() != api.OK {
			t.Fatalf("%v", r.Done())
		}
	}
}

func TestP2_6AnyBytes(t *testing.T) {
	rnd := rand.New(rand.NewSource(28))
	for range 3000 {
		b := make([]byte, rnd.Intn(40))
		rnd.Read(b)
		r := newReader(t, b)
		for range 12 {
			left, err := r.Left(), r.Err()
			_, zero := randomThing(rnd).read(r)
			switch {
			case err != api.OK && r.Err() != err:
				t.Fatalf("%v: the error %v gives way to %v", b, err, r.Err())
			case r.Err() != api.OK && (r.Left() != left || !zero):
				t.Fatalf("%v: %v, but %d of %d bytes are left", b, r.Err(), r.Left(), left)
			case r.Left() > left || r.Left() < 0:
				t.Fatalf("%v: %d left behind %d", b, r.Left(), left)
			}
		}
	}
}

func TestP2_7Fail(t *testing.T) {
	for _, e := range []api.Errno{api.ErrNil, api.ErrArg, api.ErrField, api.ErrCodecTrail, -7, 99999} {
		r := newReader(t, []byte{1, 0})
		r.Fail(api.OK)
		if !r.Flag() || r.Err() != api.OK {
			t.Fatalf("Fail(OK) lets an error stand: %v", r.Err())
		}
		r.Fail(e)
		r.Fail(api.OK)
		r.Fail(api.ErrOrder)
		for _, th := range samples() {
			if _, zero := th.read(r); !zero || r.Err() != e || r.Done() != e || r.Left() != 1 {
				t.Fatalf("behind Fail(%d), kind %d: %v, %v, %v, %d", e, th.kind, zero, r.Err(), r.Done(), r.Left())
			}
		}
	}
	r := newReader(t, []byte{9})
	r.Flag()
	r.Fail(api.ErrField)
	if r.Err() != api.ErrCodecFlag {
		t.Errorf("Fail behind another error: %v", r.Err())
	}
}

func TestP2_8Done(t *testing.T) {
	r := newReader(t, []byte{172, 2, 9})
	for range 2 {
		if r.Done() != api.ErrCodecTrail || r.Err() != api.OK || r.Left() != 3 {
			t.Fatalf("%v, %v, %d", r.Done(), r.Err(), r.Left())
		}
	}
	if x := r.Varint(); x != 300 || r.Left() != 1 || r.Done() != api.ErrCodecTrail {
		t.Errorf("%d, %d, %v", x, r.Left(), r.Done())
	}
	if x := r.U8(); x != 9 || r.Left() != 0 || r.Done() != api.OK || r.Err() != api.OK {
		t.Errorf("%d, %d, %v", x, r.Left(), r.Done())
	}
	r.U8()
	if r.Done() != api.ErrCodecShort || r.Err() != api.ErrCodecShort || r.Left() != 0 {
		t.Errorf("%v, %v, %d", r.Done(), r.Err(), r.Left())
	}
}

func TestP2_9NilReader(t *testing.T) {
	var r *codec.Reader
	r.Fail(api.ErrField)
	for _, th := range samples() {
		if _, zero := th.read(r); !zero {
			t.Errorf("kind %d of a nil reader", th.kind)
		}
	}
	if len(r.Raw(-1)) != 0 || len(r.Block(-1)) != 0 || r.Left() != 0 || r.Err() != api.ErrNil || r.Done() != api.ErrNil {
		t.Errorf("%d, %v, %v", r.Left(), r.Err(), r.Done())
	}
}

// R1: a reader that nobody made doesn't panic.
func TestUnmadeReader(t *testing.T) {
	for _, th := range samples() {
		var r codec.Reader
		th.read(&r)
		r.Fail(api.ErrArg)
		r.Left()
		r.Done()
	}
}

func TestP2_10ReaderMemory(t *testing.T) {
	in := []byte{1, 2, 3, 4, 5, 6, 2, 7, 8, 0, 9, 10}
	r := newReader(t, in)
	answers := [][]byte{r.Raw(3), r.Raw(0), r.Raw(3), r.Block(2), r.Block(0), r.Raw(1), r.Raw(1), in}
	for i, a := range answers {
		for _, b := range answers[:i] {
			if !apart(a, b) {
				t.Errorf("%v and %v share memory", b, a)
			}
		}
	}
	r = newReader(t, in)
	a := r.Raw(3)
	spoil(a)
	_ = append(a, 70, 71, 72)
	b := r.Raw(3)
	if !bytes.Equal(b, []byte{4, 5, 6}) {
		t.Errorf("%v", b)
	}
	spoil(b)
	_ = append(b, 70, 71, 72)
	if c := r.Block(2); !bytes.Equal(c, []byte{7, 8}) {
		t.Errorf("%v", c)
	}
}
