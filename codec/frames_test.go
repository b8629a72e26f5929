package codec_test

import (
	"bytes"
	"math/rand"
	"testing"

	"shard/api"
	"shard/codec"
)

func docFrame(body []byte) []byte {
	length := docNumber(uint64(len(body)), 4)
	sum := docNumber(uint64(docCrcMore(0, append(bytes.Clone(length), body...))), 4)
	return append(append(length, sum...), body...)
}

// docFrames is P2.16, word by word.
func docFrames(b []byte) (bodies [][]byte, taken int, e api.Errno) {
	for {
		left := b[taken:]
		if len(left) == 0 {
			return bodies, taken, api.OK
		}
		if len(left) < 8 {
			return bodies, taken, api.ErrCodecShort
		}
		length := int(left[0])<<24 + int(left[1])<<16 + int(left[2])<<8 + int(left[3])
		if length > 16777216-8 {
			return bodies, taken, api.ErrCodecBig
		}
		if len(left)-8 < length {
			return bodies, taken, api.ErrCodecShort
		}
		body := left[8 : 8+length]
		if !bytes.Equal(docFrame(body), left[:8+length]) {
			return bodies, taken, api.ErrCodecSum
		}
		bodies = append(bodies, body)
		taken += 8 + length
	}
}

func checkFrames(t *testing.T, b []byte) {
	t.Helper()
	kept := bytes.Clone(b)
	bodies, n, e := codec.Frames(b)
	wantBodies, want, err := docFrames(b)
	if n != want || e != err || len(bodies) != len(wantBodies) {
		t.Fatalf("of %d bytes: %d bodies, %d, %v; want %d, %d, %v", len(b), len(bodies), n, e, len(wantBodies), want, err)
	}
	for i, body := range bodies {
		if !bytes.Equal(body, wantBodies[i]) {
			t.Fatalf("body %d: %v, want %v", i, body, wantBodies[i])
		}
	}
	if !bytes.Equal(b, kept) {
		t.Fatal("what is handed in is changed")
	}
}

func TestP2_15Frame(t *testing.T) {
	if f, e := codec.Frame(nil); !bytes.Equal(f, []byte{0, 0, 0, 0, 72, 103, 75, 199}) || e != api.OK {
		t.Errorf("of no bytes: %v, %v", f, e)
	}
	for _, size := range []int{0, 1, 7, 8, 255, 256, 65535, 65536, 70000} {
		b := bytes.Repeat([]byte{byte(size), 3}, size)[:size]
		if f, e := codec.Frame(b); !bytes.Equal(f, docFrame(b)) || e != api.OK {
			t.Errorf("of %d bytes: %v, %v", size, f, e)
		}
	}
}

func TestP2_15Greatest(t *testing.T) {
	b := make([]byte, api.MaxCodec-8+1)
	for i := range b {
		b[i] = byte(i % 253)
	}
	if f, e := codec.Frame(b); len(f) != 0 || e != api.ErrCodecBig {
		t.Errorf("one past the greatest: %d bytes, %v", len(f), e)
	}
	b = b[:api.MaxCodec-8]
	f, e := codec.Frame(b)
	if !bytes.Equal(f, docFrame(b)) || e != api.OK {
		t.Fatalf("the greatest: %d bytes, %v", len(f), e)
	}
	// Two of them are more than a Writer or a Reader takes, but not more than Frames does.
	two := append(bytes.Clone(f), f...)
	bodies, n, e := codec.Frames(two)
	if len(bodies) != 2 || !bytes.Equal(bodies[0], b) || !bytes.Equal(bodies[1], b) || n != 2*api.MaxCodec || e != api.OK {
		t.Errorf("two of the greatest: %d bodies, %d, %v", len(bodies), n, e)
	}
	checkFrames(t, two[:len(two)-1])
}

func TestP2_16Frames(t *testing.T) {
	first, second := docFrame([]byte("hello")), docFrame([]byte("world!"))
	empty := docFrame(nil)
	all := bytes.Join([][]byte{first, empty, second, empty}, nil)
	bodies, n, e := codec.Frames(all)
	if len(bodies) != 4 || string(bodies[0]) != "hello" || len(bodies[1]) != 0 || string(bodies[2]) != "world!" || len(bodies[3]) != 0 || n != len(all) || e != api.OK {
		t.Errorf("%q, %d, %v", bodies, n, e)
	}
	two := append(bytes.Clone(first), second...)
	if bodies, n, e := codec.Frames(two[:len(two)-1]); len(bodies) != 1 || string(bodies[0]) != "hello" || n != len(first) || e != api.ErrCodecShort {
		t.Errorf("a torn tail: %q, %d, %v", bodies, n, e)
	}
	for end := range len(all) + 1 {
		checkFrames(t, all[:end])
	}
	for i := range all {
		for bit := range 8 {
			all[i] ^= 1 << bit
			checkFrames(t, all)
			if _, _, e := codec.Frames(all); e == api.OK {
				t.Errorf("a bit that is turned at %d isn't told", i)
			}
			all[i] ^= 1 << bit
		}
	}
}

func TestP2_16Edges(t *testing.T) {
	big := docNumber(api.MaxCodec-8+1, 4)
	most := docNumber(api.MaxCodec-8, 4)
	for _, c := range []struct {
		b   []byte
		err api.Errno
	}{
		{nil, api.OK},
		{[]byte{}, api.OK},
		{[]byte{0}, api.ErrCodecShort},
		{make([]byte, 7), api.ErrCodecShort},
		{make([]byte, 8), api.ErrCodecSum},
		{[]byte{255, 255, 255, 255, 0, 0, 0}, api.ErrCodecShort},
		{[]byte{255, 255, 255, 255, 0, 0, 0, 0}, api.ErrCodecBig},
		{append(big, 0, 0, 0, 0), api.ErrCodecBig},
		{append(most, 0, 0, 0, 0), api.ErrCodecShort},
		{append(most, make([]byte, api.MaxCodec-4)...), api.ErrCodecSum},
		{append(most, make([]byte, api.MaxCodec-5)...), api.ErrCodecShort},
		{[]byte{0, 0, 0, 1, 0, 0, 0, 0}, api.ErrCodecShort},
		{[]byte{0, 0, 0, 1, 0, 0, 0, 0, 0}, api.ErrCodecSum},
	} {
		if bodies, n, e := codec.Frames(c.b); len(bodies) != 0 || n != 0 || e != c.err {
			t.Errorf("%d bytes: %d bodies, %d, %v, want %v", len(c.b), len(bodies), n, e, c.err)
		}
		first := docFrame([]byte("x"))
		if bodies, n, e := codec.Frames(append(first, c.b...)); len(bodies) != 1 || string(bodies[0]) != "x" || n != 9 || e != c.err {
			t.Errorf("a frame and %d bytes: %q, %d, %v, want %v", len(c.b), bodies, n, e, c.err)
		}
	}
}

func TestP2_16AnyBytes(t *testing.T) {
	rnd := rand.New(rand.NewSource(216))
	for range 2000 {
		var b []byte
		for range rnd.Intn(6) {
			body := make([]byte, rnd.Intn(30))
			rnd.Read(body)
			b = append(b, docFrame(body)...)
		}
		if len(b) > 0 && rnd.Intn(2) == 0 {
			b[rnd.Intn(len(b))] = byte(rnd.Intn(256))
		}
		checkFrames(t, b[:len(b)-rnd.Intn(2)*rnd.Intn(len(b)+1)])
	}
}

// What is written into all the room of a body, or appended to it, no other body sees.
func TestP2_10FrameMemory(t *testing.T) {
	in := append(make([]byte, 0, 50), "body"...)
	a, _ := codec.Frame(in)
	b, _ := codec.Frame(in)
	if !apart(a, b) || !apart(a, in) || string(in) != "body" {
		t.Error("two frames, or a frame and its body, share memory")
	}
	var all []byte
	for _, s := range []string{"one", "", "two", "three", ""} {
		all = append(all, docFrame([]byte(s))...)
	}
	bodies, _, _ := codec.Frames(all)
	again, _, _ := codec.Frames(all)
	if len(bodies) != 5 || len(again) != 5 {
		t.Fatal(len(bodies), len(again))
	}
	everything := append([][]byte{all}, append(bodies[:5:5], again...)...)
	for i, a := range everything {
		for _, b := range everything[:i] {
			if !apart(a, b) {
				t.Errorf("%q and %q share memory", a, b)
			}
		}
	}
	for i := range bodies {
		spoil(bodies[i])
		_ = append(bodies[i], "XXXXXXXXXXXXXXXX"...)
		for j := i + 1; j < len(bodies); j++ {
			if !bytes.Equal(bodies[j], again[j]) {
				t.Errorf("body %d changes with body %d: %q", j, i, bodies[j])
			}
		}
	}
}
