package codec_test

import (
	"hash/crc32"
	"hash/fnv"
	"math"
	"math/rand"
	"testing"

	"shard/codec"
)

// docTake takes one byte into the register, bit by bit.
func docTake(register uint32, b byte) uint32 {
	register ^= uint32(b)
	for range 8 {
		out := register % 2
		register /= 2
		if out == 1 {
			register ^= 0x82F63B78
		}
	}
	return register
}

func docCrcMore(crc uint32, b []byte) uint32 {
	register := crc ^ 0xFFFFFFFF
	for _, c := range b {
		register = docTake(register, c)
	}
	return register ^ 0xFFFFFFFF
}

// A linear map of registers: what each single bit comes to.
type linear [32]uint32

func (l linear) of(x uint32) uint32 {
	var out uint32
	for bit := range 32 {
		if x&(1<<bit) != 0 {
			out ^= l[bit]
		}
	}
	return out
}

// docZeros takes n bytes 0 into the register: one byte's linear map, its squares multiplied together.
func docZeros(register uint32, n int) uint32 {
	var square linear
	for bit := range square {
		square[bit] = docTake(1<<bit, 0)
	}
	for ; n > 0; n /= 2 {
		if n%2 == 1 {
			register = square.of(register)
		}
		var next linear
		for bit := range next {
			next[bit] = square.of(square[bit])
		}
		square = next
	}
	return register
}

func someBytes(rnd *rand.Rand) []byte {
	b := make([]byte, rnd.Intn(2)*rnd.Intn(3000)+rnd.Intn(20))
	rnd.Read(b)
	return b
}

func TestP2_11Crc(t *testing.T) {
	for text, want := range map[string]uint32{"": 0, "123456789": 0xE3069283, "a": 0xC1D04330, "\x00\x00\x00\x00": 0x48674BC7} {
		if x := codec.Crc([]byte(text)); x != want {
			t.Errorf("Crc of %q: %x, want %x", text, x, want)
		}
	}
	if codec.Crc(nil) != 0 {
		t.Error("Crc of nil")
	}
	castagnoli := crc32.MakeTable(crc32.Castagnoli)
	for i := range 256 {
		b := []byte{byte(i)}
		if x := codec.Crc(b); x != docCrcMore(0, b) || x != crc32.Checksum(b, castagnoli) {
			t.Errorf("Crc of %d: %x", i, x)
		}
	}
	rnd := rand.New(rand.NewSource(211))
	for range 300 {
		b := someBytes(rnd)
		if x := codec.Crc(b); x != docCrcMore(0, b) || x != crc32.Checksum(b, castagnoli) {
			t.Errorf("Crc of %d bytes: %x", len(b), x)
		}
	}
}

func TestP2_12CrcMore(t *testing.T) {
	rnd := rand.New(rand.NewSource(212))
	for range 300 {
		a, b := someBytes(rnd), someBytes(rnd)
		if x := codec.CrcMore(codec.Crc(a), b); x != codec.Crc(append(a, b...)) {
			t.Errorf("%d and %d bytes: %x", len(a), len(b), x)
		}
		if codec.CrcMore(0, b) != codec.Crc(b) {
			t.Errorf("from 0, %d bytes", len(b))
		}
		for _, crc := range []uint32{rnd.Uint32(), 1, math.MaxUint32, 1 << 31} {
			if x := codec.CrcMore(crc, b); x != docCrcMore(crc, b) {
				t.Errorf("from %x, %d bytes: %x", crc, len(b), x)
			}
			if x := codec.CrcMore(crc, nil); x != crc {
				t.Errorf("from %x, no bytes: %x", crc, x)
			}
		}
	}
}

func TestP2_13CrcJoin(t *testing.T) {
	nine := []byte("123456789")
	for n := range len(nine) + 1 {
		if x := codec.CrcJoin(codec.Crc(nine[:n]), codec.Crc(nine[n:]), len(nine)-n); x != 0xE3069283 {
			t.Errorf("%d and %d bytes: %x", n, len(nine)-n, x)
		}
	}
	rnd := rand.New(rand.NewSource(213))
	for range 300 {
		a, b := someBytes(rnd), someBytes(rnd)
		if x := codec.CrcJoin(codec.Crc(a), codec.Crc(b), len(b)); x != codec.Crc(append(a, b...)) {
			t.Errorf("%d and %d bytes: %x", len(a), len(b), x)
		}
	}
	register := uint32(0xDEADBEEF)
	for n := range 5000 {
		if x := codec.CrcJoin(0xDEADBEEF, 0x12345678, n); x != register^0x12345678 {
			t.Fatalf("n %d: %x", n, x)
		}
		register = docTake(register, 0)
	}
}

func TestP2_13CrcJoinOfAllLengths(t *testing.T) {
	for _, n := range []int{0, -1, -2, math.MinInt, math.MinInt + 1} {
		if x := codec.CrcJoin(5, 3, n); x != 6 {
			t.Errorf("n %d: %x", n, x)
		}
	}
	rnd := rand.New(rand.NewSource(2130))
	lengths := []int{math.MaxInt, math.MaxInt - 1, math.MaxUint32, math.MaxUint32 + 1, math.MaxInt32}
	for bit := range 63 {
		lengths = append(lengths, 1<<bit, 1<<bit-1, rnd.Int()>>bit)
	}
	for _, n := range lengths {
		for _, a := range []uint32{0, 1, math.MaxUint32, 1 << 31, rnd.Uint32()} {
			b := rnd.Uint32()
			if x := codec.CrcJoin(a, b, n); x != docZeros(a, n)^b {
				t.Errorf("%x, %x, %d: %x", a, b, n, x)
			}
		}
	}
}

func TestP2_14Fnv(t *testing.T) {
	if codec.Fnv(nil) != 14695981039346656037 || codec.Fnv([]byte{}) != 14695981039346656037 || codec.Fnv([]byte{97}) != 0xAF63DC4C8601EC8C {
		t.Errorf("%d, %x", codec.Fnv(nil), codec.Fnv([]byte{97}))
	}
	rnd := rand.New(rand.NewSource(214))
	for range 300 {
		a, b := someBytes(rnd), someBytes(rnd)
		published := fnv.New64a()
		published.Write(a)
		if x := codec.Fnv(a); x != published.Sum64() {
			t.Errorf("%d bytes: %x", len(a), x)
		}
		published.Write(b)
		if x := codec.FnvMore(codec.Fnv(a), b); x != published.Sum64() {
			t.Errorf("%d and %d bytes: %x", len(a), len(b), x)
		}
		for _, h := range []uint64{0, 1, math.MaxUint64, rnd.Uint64()} {
			want := h
			for _, c := range b {
				want = (want&^255 | want%256 ^ uint64(c)) * 1099511628211
			}
			if x := codec.FnvMore(h, b); x != want {
				t.Errorf("from %x, %d bytes: %x", h, len(b), x)
			}
		}
	}
}

func TestSumsChangeNothing(t *testing.T) {
	b := []byte{1, 2, 3}
	codec.Crc(b)
	codec.CrcMore(7, b)
	codec.Fnv(b)
	codec.FnvMore(7, b)
	if string(b) != "\x01\x02\x03" {
		t.Errorf("%v", b)
	}
}
