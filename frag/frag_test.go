package frag_test

import (
	"bytes"
	"math"
	"math/rand"
	"reflect"
	"slices"
	"testing"

	"shard/api"
	"shard/frag"
)

func checkSplit(t *testing.T, packet []byte, id uint64, mtu int) {
	t.Helper()
	want, e := docSplit(packet, id, mtu)
	got, err := frag.Split(packet, id, mtu)
	if err != e || !slices.EqualFunc(got, want, bytes.Equal) {
		t.Fatalf("Split(%d bytes, %d, %d): %d datagrams, %d; want %d, %d", len(packet), id, mtu, len(got), err, len(want), e)
	}
	for _, d := range got {
		if len(d) > mtu {
			t.Fatalf("Split(%d bytes, %d, %d): a datagram of %d bytes", len(packet), id, mtu, len(d))
		}
	}
}

func TestP4_1SplitExamples(t *testing.T) {
	rnd := rand.New(rand.NewSource(41))
	for _, c := range []struct {
		size, mtu int
		sizes     []int
	}{
		{100, 64, []int{52, 52, 50}}, {100, 118, []int{118}}, {100, 117, []int{68, 68}}, {1, 64, []int{19}}, {46, 64, []int{64}}, {47, 64, []int{42, 41}}, {1006, 1024, []int{1024}}, {1007, 1024, []int{522, 521}},
	} {
		packet := randomBytes(rnd, c.size)
		datagrams, e := frag.Split(packet, 9, c.mtu)
		var sizes []int
		for _, d := range datagrams {
			sizes = append(sizes, len(d))
		}
		if e != api.OK || !slices.Equal(sizes, c.sizes) {
			t.Errorf("Split(%d bytes, 9, %d): sizes %v, %d; want %v", c.size, c.mtu, sizes, e, c.sizes)
		}
	}
	datagrams, e := frag.Split([]byte("abc"), 5, 64)
	want := seal([]byte{0xd6, 1, 0, 0, 0, 0, 0, 0, 0, 5, 0, 3, 0, 1, 0x61, 0x62, 0x63})
	if e != api.OK || len(datagrams) != 1 || !bytes.Equal(datagrams[0], want) {
		t.Errorf("Split of abc: % x, %d", datagrams, e)
	}
	datagrams, e = frag.Split(make([]byte, 4096), math.MaxUint64, 64)
	if e != api.OK || len(datagrams) != 90 || len(datagrams[88]) != 64 || len(datagrams[89]) != 20 {
		t.Errorf("Split of 4096 bytes: %d datagrams, %d", len(datagrams), e)
	}
}

func TestP4_1SplitAllSizes(t *testing.T) {
	packet := randomBytes(rand.New(rand.NewSource(411)), 4096)
	for size := 1; size <= len(packet); size++ {
		checkSplit(t, packet[:size], uint64(size)<<50, 64+size%7)
		checkSplit(t, packet[:size], uint64(size), 64+(size*31)%961)
	}
	for mtu := 64; mtu <= 1024; mtu++ {
		checkSplit(t, packet, math.MaxUint64-uint64(mtu), mtu)
		checkSplit(t, packet[:mtu], 0, mtu)
		checkSplit(t, packet[:mtu-18], 1, mtu)
		checkSplit(t, packet[:mtu-17], 1, mtu)
	}
}

func TestP4_1SplitRefuses(t *testing.T) {
	for _, c := range []struct {
		size, mtu int
		want      api.Errno
	}{
		{100, 63, api.ErrMTU}, {100, 1025, api.ErrMTU}, {100, 18, api.ErrMTU}, {100, 0, api.ErrMTU}, {100, -1, api.ErrMTU}, {100, math.MinInt, api.ErrMTU}, {100, math.MaxInt, api.ErrMTU},
		{0, 63, api.ErrMTU}, {4097, 1025, api.ErrMTU},
		{0, 64, api.ErrPacket}, {0, 1024, api.ErrPacket}, {4097, 64, api.ErrPacket}, {4097, 1024, api.ErrPacket}, {1 << 20, 1024, api.ErrPacket},
		{4096, 64, api.OK}, {4096, 1024, api.OK}, {1, 64, api.OK}, {1, 1024, api.OK},
	} {
		datagrams, e := frag.Split(make([]byte, c.size), 3, c.mtu)
		if e != c.want || (e == api.OK) != (len(datagrams) > 0) {
			t.Errorf("Split(%d bytes, 3, %d): %d datagrams, %d; want %d", c.size, c.mtu, len(datagrams), e, c.want)
		}
	}
	if datagrams, e := frag.Split(nil, 3, 64); len(datagrams) != 0 || e != api.ErrPacket {
		t.Errorf("Split of nothing: %d datagrams, %d", len(datagrams), e)
	}
}

func checkLook(t *testing.T, d []byte) {
	t.Helper()
	want, e := docLook(d)
	got, err := frag.Look(d)
	same := bytes.Equal(got.Part, want.Part)
	got.Part, want.Part = nil, nil
	if err != e || !same || !reflect.DeepEqual(got, want) {
		t.Fatalf("Look(% x): %v, %d; want %v, %d", d, got, err, want, e)
	}
}

func TestP4_2LookOfSplit(t *testing.T) {
	rnd := rand.New(rand.NewSource(42))
	for range 300 {
		packet, id, mtu := randomBytes(rnd, 1+rnd.Intn(4096)), rnd.Uint64(), 64+rnd.Intn(961)
		datagrams, _ := frag.Split(packet, id, mtu)
		var joined []byte
		for i, d := range datagrams {
			f, e := frag.Look(d)
			if e != api.OK || f.Id != id || f.Total != len(packet) || f.Count != len(datagrams) || f.Index != i {
				t.Fatalf("Look of datagram %d of %d: %v, %d", i, len(datagrams), f, e)
			}
			joined = append(joined, f.Part...)
		}
		if !bytes.Equal(joined, packet) {
			t.Fatalf("the parts of a packet of %d bytes, mtu %d, are not the packet", len(packet), mtu)
		}
	}
}

// Each Total, with the Counts and Indexes about which the shape turns, and the lengths about the right one.
func TestP4_2LookShapes(t *testing.T) {
	id := uint64(0x0102030405060708)
	totals := []int{0, 1, 2, 3, 4, 5, 9, 10, 11, 126, 127, 128, 129, 130, 254, 255, 256, 257, 381, 999, 1005, 1006, 1007, 4095, 4096, 4097, 8192, 65535}
	part := make([]byte, 1100)
	for _, total := range totals {
		for _, count := range []int{0, 1, 2, 3, 4, 5, 6, 9, 10, 11, 63, 64, 65, 86, 126, 127, 128, 129, 200, 255} {
			for _, index := range []int{0, 1, 2, 3, count - 2, count - 1, count, count + 1, 255} {
				right := 1
				if count > 0 {
					right = (total + count - 1) / count
				}
				for _, n := range []int{0, 1, 2, total - (count-1)*right - 1, total - (count-1)*right, total - (count-1)*right + 1, right - 1, right, right + 1} {
					if n >= 0 && n <= len(part) && index >= 0 {
						checkLook(t, docDatagram(id, total, index, count, part[:n]))
					}
				}
			}
		}
	}
}

func TestP4_2LookExamples(t *testing.T) {
	part := make([]byte, 1100)
	for _, c := range []struct {
		total, index, count, size int
		want                      api.Errno
	}{
		{10, 0, 4, 3, api.OK}, {10, 2, 4, 3, api.OK}, {10, 3, 4, 1, api.OK}, {10, 3, 4, 3, api.ErrFrag}, {10, 2, 4, 1, api.ErrFrag},
		{10, 0, 6, 2, api.ErrFrag}, {10, 4, 6, 2, api.ErrFrag}, {10, 4, 5, 2, api.OK}, {128, 127, 128, 1, api.OK}, {129, 0, 129, 1, api.ErrFrag},
		{1006, 0, 1, 1006, api.OK}, {1007, 0, 1, 1007, api.ErrFrag}, {4096, 127, 128, 32, api.OK}, {4097, 0, 5, 820, api.ErrFrag}, {0, 0, 1, 1, api.ErrFrag}, {1, 0, 0, 1, api.ErrFrag},
	} {
		_, e := frag.Look(docDatagram(7, c.total, c.index, c.count, part[:c.size]))
		if e != c.want {
			t.Errorf("Look of Total %d, Index %d, Count %d, %d bytes: %d; want %d", c.total, c.index, c.count, c.size, e, c.want)
		}
	}
}

// What is named first counts: the size and the first two bytes, then the sum, then the shape.
func TestP4_2LookOrder(t *testing.T) {
	right := docDatagram(7, 3, 0, 1, []byte("abc"))
	for _, c := range []struct {
		name string
		d    []byte
		want api.Errno
	}{
		{"nothing", nil, api.ErrFrag},
		{"no part", docDatagram(7, 3, 0, 1, nil), api.ErrFrag},
		{"no part and a wrong sum", make([]byte, 18), api.ErrFrag},
		{"1025 bytes and a wrong sum", append([]byte{0xd6, 1}, make([]byte, 1023)...), api.ErrFrag},
		{"1024 bytes and a wrong sum", append([]byte{0xd6, 1}, make([]byte, 1022)...), api.ErrFragSum},
		{"19 bytes and a wrong sum", append([]byte{0xd6, 1}, make([]byte, 17)...), api.ErrFragSum},
		{"another mark, sealed", seal(append([]byte{0xd7}, right[1:17]...)), api.ErrFrag},
		{"another version, sealed", seal(append([]byte{0xd6, 0}, right[2:17]...)), api.ErrFrag},
		{"another mark and a wrong sum", append([]byte{0xd7}, right[1:]...), api.ErrFrag},
		{"another version and a wrong sum", append([]byte{0xd6, 2}, right[2:]...), api.ErrFrag},
		{"a wrong shape and a wrong sum", append(docDatagram(7, 0, 0, 1, []byte("abc")), 0), api.ErrFragSum},
		{"a wrong shape", docDatagram(7, 0, 0, 1, []byte("abc")), api.ErrFrag},
		{"right", right, api.OK},
	} {
		f, e := frag.Look(c.d)
		if e != c.want || e != api.OK && !reflect.DeepEqual(f, api.Frag{}) {
			t.Errorf("Look of %s: %v, %d; want %d", c.name, f, e, c.want)
		}
		checkLook(t, c.d)
	}
}

func TestP4_2LookOfSpoiltDatagrams(t *testing.T) {
	rnd := rand.New(rand.NewSource(422))
	datagrams, _ := frag.Split(randomBytes(rnd, 130), rnd.Uint64(), 64)
	for _, d := range datagrams {
		for i := range len(d) * 8 {
			bent := bytes.Clone(d)
			bent[i/8] ^= 1 << (i % 8)
			if _, e := frag.Look(bent); e != api.ErrFrag && e != api.ErrFragSum {
				t.Fatalf("Look(% x): %d", bent, e)
			}
			checkLook(t, bent)
			checkLook(t, seal(bent[:len(bent)-4]))
		}
		for n := range d {
			checkLook(t, d[:n])
			checkLook(t, seal(d[:n]))
		}
	}
	for range 5000 {
		d := randomBytes(rnd, rnd.Intn(60))
		checkLook(t, d)
		copy(d, []byte{0xd6, 1})
		checkLook(t, d)
		checkLook(t, seal(d))
	}
}

func TestP4_9SplitMemory(t *testing.T) {
	rnd := rand.New(rand.NewSource(491))
	for _, size := range []int{1, 46, 47, 300, 4096} {
		room := randomBytes(rnd, size+9)
		handed := bytes.Clone(room)
		datagrams, _ := frag.Split(room[:size], 5, 64)
		again, _ := frag.Split(room[:size], 5, 64)
		if !bytes.Equal(room, handed) {
			t.Fatalf("Split changed its packet of %d bytes", size)
		}
		if !apart(slices.Concat(datagrams, again, [][]byte{room})...) {
			t.Fatalf("Split of %d bytes: lists share memory", size)
		}
		spoil(room)
		for _, d := range datagrams {
			spoil(d)
		}
		if want, _ := docSplit(handed[:size], 5, 64); !slices.EqualFunc(again, want, bytes.Equal) {
			t.Fatalf("Split of %d bytes: an answer was changed from outside", size)
		}
	}
}

func TestP4_9LookMemory(t *testing.T) {
	d := append(docDatagram(7, 10, 0, 4, []byte("abc")), "spare"...)
	handed := bytes.Clone(d)
	f, _ := frag.Look(d[:21])
	again, _ := frag.Look(d[:21])
	if !bytes.Equal(d, handed) || !apart(d, f.Part, again.Part) {
		t.Error("Look changes or shares its datagram")
	}
	spoil(d)
	spoil(f.Part)
	if string(again.Part) != "abc" {
		t.Error("Look's answer was changed from outside")
	}
}
