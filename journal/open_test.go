package journal_test

import (
	"bytes"
	"math"
	"math/rand"
	"testing"

	"shard/api"
)

// The document's examples of disks that can't be opened.
func TestP9_2Examples(t *testing.T) {
	faulty(t, diskOf(nil, nil), 64, -1, 0, api.ErrNoState)
	faulty(t, diskOf(slotOf(1, "")[:19], nil), 64, -1, 0, api.ErrNoState)
	for i := range 20 {
		for bit := range 8 {
			faulty(t, diskOf(turned(slotOf(1, "")[:20], i, bit), nil), 64, 0, 0, api.ErrRot)
		}
	}
	two := slotOf(1, "state", "first", "second")
	second := 24 + 5 + 12 + 5
	faulty(t, diskOf(turned(two, second+2, 3), nil), 128, 0, second, api.ErrRot)
	faulty(t, diskOf(turned(two, second+8, 3), nil), 128, 0, second+8, api.ErrRot)
	faulty(t, diskOf(nil, slotOf(3, "")), 64, 1, 0, api.ErrRot)
	faulty(t, diskOf(slotOf(1, ""), slotOf(4, "")), 64, 0, 4, api.ErrRot)
}

func TestP9_2LimitsRefused(t *testing.T) {
	good := slotOf(1, "s")
	for _, limit := range []int{63, 1, 0, -1, -64, math.MinInt, mostLimit + 1, 1 << 30, math.MaxInt} {
		for _, d := range []api.Disk{diskOf(good, nil), diskOf(nil, nil), diskOf(turned(good, 0, 0), nil), diskOf(long200(), long200())} {
			faulty(t, d, limit, -1, 0, api.ErrSlots)
		}
	}
}

func long200() []byte { return []byte(long(200)) }

func TestP9_2SlotsAboveTheLimit(t *testing.T) {
	at, above := slotOf(1, long(40)), slotOf(1, long(41))
	other, aboveOther := slotOf(2, long(40)), slotOf(2, long(41))
	openDisk(t, diskOf(at, nil), 64)
	openDisk(t, diskOf(nil, other), 64)
	openDisk(t, diskOf(at, other), 64)
	faulty(t, diskOf(above, nil), 64, 0, 64, api.ErrSlots)
	faulty(t, diskOf(nil, aboveOther), 64, 1, 64, api.ErrSlots)
	faulty(t, diskOf(at, aboveOther), 64, 1, 64, api.ErrSlots)
	faulty(t, diskOf(above, aboveOther), 64, 0, 64, api.ErrSlots)
	openDisk(t, diskOf(above, aboveOther), 65)
	faulty(t, diskOf(at, slotOf(2, long(77))), 100, 1, 100, api.ErrSlots)
	// A torn end counts as well, and the length counts ahead of rot and of what the other slot has.
	openDisk(t, diskOf(append(slotOf(1, long(36)), 0, 0, 0, 9), nil), 64)
	faulty(t, diskOf(append(slotOf(1, long(36)), 0, 0, 0, 9, 9), nil), 64, 0, 64, api.ErrSlots)
	faulty(t, diskOf(turned(at, 3, 0), aboveOther), 64, 1, 64, api.ErrSlots)
	faulty(t, diskOf(turned(above, 3, 0), nil), 64, 0, 64, api.ErrSlots)
	faulty(t, diskOf(make([]byte, mostLimit+1), nil), mostLimit, 0, mostLimit, api.ErrSlots)
}

// Pieces that are sealed rightly, but say what may not be.
func TestP9_2SealedRot(t *testing.T) {
	marked := func(i int) []byte {
		h := head(1, 0)
		h[i]++
		return sealed(h, nil)
	}
	good := [][]byte{head(1, 2), []byte("st"), four(3), []byte("rec")}
	record := 24 + 2
	behind := record + 12 + 3
	with := func(more ...[]byte) []byte { return sealed(append(good[:4:4], more...)...) }
	for i, c := range []struct {
		slot []byte
		at   int
	}{
		{marked(0), 0},
		{marked(1), 0},
		{marked(2), 0},
		{marked(3), 0},
		{sealed(head(0, 0), nil), 0},
		{sealed(head(2, 0), nil), 0},
		{sealed(head(top-1, 0), nil), 0},
		{sealed(head(1, mostState+1)), 0},
		{sealed(head(1, -1)), 0},
		{sealed(head(1, 1<<31)), 0},
		{sealed(head(1, mostState+1), make([]byte, mostState+1)), 0},
		{with(four(0)), behind},
		{with(four(0), nil), behind},
		{with(four(0), []byte("x")), behind},
		{with(four(mostRecord + 1)), behind},
		{with(four(mostRecord+1), make([]byte, mostRecord+1)), behind},
		{with(four(-1)), behind},
		{with(four(1 << 31)), behind},
		{sealed(head(1, 0), nil, four(0), nil), 24},
		// Behind rot nothing is looked at any more.
		{with(four(0), nil, four(1), []byte("x")), behind},
		{append(with(four(0)), 1, 2, 3), behind},
	} {
		faulty(t, diskOf(c.slot, nil), mostLimit, 0, c.at, api.ErrRot)
		faulty(t, diskOf(c.slot, slotOf(2, "other")), mostLimit, 0, c.at, api.ErrRot)
		if t.Failed() {
			t.Fatalf("row %d", i)
		}
	}
	for _, gen := range []uint64{0, 1, 3, top} {
		faulty(t, diskOf(nil, sealed(head(gen, 0), nil)), 64, 1, 0, api.ErrRot)
		faulty(t, diskOf(slotOf(1, ""), sealed(head(gen, 0), nil)), 64, 1, 0, api.ErrRot)
	}
}

// A sum that leaves out something else than the sums, or nothing, is wrong.
func TestP9_2SumsOfOtherBytes(t *testing.T) {
	first := sealed(head(1, 2))
	all := append(bytes.Clone(first), sealed(append(bytes.Clone(first), "st"...))[len(first):]...) // the head's sum is summed up too
	faulty(t, diskOf(all, nil), 64, 0, 20, api.ErrRot)
	alone := append(bytes.Clone(first), sealed([]byte("st"))...)
	faulty(t, diskOf(alone, nil), 64, 0, 20, api.ErrRot)
	record := append(slotOf(1, "st"), sealed(four(1), []byte("r"))...)
	faulty(t, diskOf(record, nil), 64, 0, 26, api.ErrRot)
	// A record moved from another place, or from another generation, is rot.
	a, b := slotOf(1, "st", "x", "y"), slotOf(1, "st", "y", "x")
	mixed := append(bytes.Clone(a[:39]), b[26:39]...)
	faulty(t, diskOf(mixed, nil), 64, 0, 39, api.ErrRot)
	stale := append(slotOf(3, "st"), slotOf(1, "st", "x")[26:]...)
	faulty(t, diskOf(stale, nil), 64, 0, 26, api.ErrRot)
}

func TestP9_2RotOfTheFirstSlotCounts(t *testing.T) {
	a, b := slotOf(1, "state", "rec"), slotOf(2, "next", "one")
	faulty(t, diskOf(turned(a, len(a)-1, 0), turned(b, 0, 0)), 128, 0, 37, api.ErrRot)
	faulty(t, diskOf(a, turned(b, 21, 0)), 128, 1, 20, api.ErrRot)
	faulty(t, diskOf(nil, turned(b, 21, 0)), 128, 1, 20, api.ErrRot)
	faulty(t, diskOf(turned(a, 1, 0), slotOf(8, "")), 128, 0, 0, api.ErrRot)
	// Rot counts ahead of generations that are no neighbours, and of there being no state.
	faulty(t, diskOf(a, turned(slotOf(8, "x"), 22, 0)), 128, 1, 20, api.ErrRot)
	faulty(t, diskOf(slotOf(1, "x")[:23], turned(b[:20], 7, 0)), 128, 1, 0, api.ErrRot)
}

func TestP9_2Generations(t *testing.T) {
	numbers := []uint64{1, 2, 3, 4, 5, 6, 255, 256, 257, 1<<32 - 1, 1 << 32, 1<<32 + 1, 1<<63 - 2, 1<<63 - 1, 1 << 63, 1<<63 + 1, top - 3, top - 2, top - 1, top}
	for _, odd := range numbers {
		for _, even := range numbers {
			if odd%2 == 0 || even%2 == 1 {
				continue
			}
			d := diskOf(slotOf(odd, "odd", "o"), slotOf(even, "even", "e"))
			switch {
			case odd == even+1:
				j, r := openDisk(t, d, 128)
				isReplay(t, r, odd, "odd", 0, "o")
				isStat(t, j, api.JournalStat{Gen: odd, Slot: 0, Records: 1, Bytes: 40})
			case even == odd+1:
				j, r := openDisk(t, d, 128)
				isReplay(t, r, even, "even", 0, "e")
				isStat(t, j, api.JournalStat{Gen: even, Slot: 1, Records: 1, Bytes: 41})
			case odd < even:
				faulty(t, d, 128, 0, 4, api.ErrRot)
			default:
				faulty(t, d, 128, 1, 4, api.ErrRot)
			}
		}
	}
	for _, gen := range numbers {
		d := docGen{gen: gen, state: "alone"}
		var disk api.Disk
		disk.Slots[d.home()] = d.bytes()
		_, r := openDisk(t, disk, 128)
		isReplay(t, r, gen, "alone", 0)
	}
}

// Of a slot that isn't whole the generation doesn't count, and all its bytes are torn.
func TestP9_2SlotsThatAreNotWhole(t *testing.T) {
	whole := slotOf(5, "five", "a", "b")
	for _, gen := range []uint64{2, 4, 6, 8, top - 1} {
		other := slotOf(gen, "other")
		for end := range len(other) {
			j, r := openDisk(t, diskOf(whole, other[:end]), 128)
			isReplay(t, r, 5, "five", end, "a", "b")
			isDisk(t, j, whole, nil)
		}
	}
	for end := range 24 + 5 {
		for end2 := range 24 + 4 {
			faulty(t, diskOf(slotOf(1, "state")[:end], slotOf(2, "next")[:end2]), 128, -1, 0, api.ErrNoState)
		}
	}
	// A head that speaks of more bytes than the limit has is torn, not rotten.
	faulty(t, diskOf(sealed(head(1, mostState)), nil), 64, -1, 0, api.ErrNoState)
	faulty(t, diskOf(append(sealed(head(1, mostState)), make([]byte, 44)...), nil), 64, -1, 0, api.ErrNoState)
}

// Both slots cut at every place.
func TestP9_2AllCuts(t *testing.T) {
	a, b := slotOf(3, "three", "x", "yy", "zzz"), slotOf(4, "4", "p", "qq")
	for end := range len(a) + 1 {
		for end2 := range len(b) + 1 {
			holdOpen(t, diskOf(a[:end], b[:end2]), 128)
		}
	}
}

func TestP9_2TornEnds(t *testing.T) {
	for _, junk := range []string{"", "\x00", "\xff\xff\xff\xff", "1234567", "\x00\x00\x00\x00\x00\x00\x00"} {
		a, b := slotOf(3, "new", "r"), slotOf(2, "old", "x", "y")
		j, r := openDisk(t, diskOf(append(bytes.Clone(a), junk...), append(bytes.Clone(b), junk...)), 128)
		isReplay(t, r, 3, "new", 2*len(junk), "r")
		isDisk(t, j, a, b)
		isStat(t, j, api.JournalStat{Gen: 3, Slot: 0, Records: 1, Bytes: len(a)})
		isSync(t, j, 0)
	}
}

// A journal that was opened goes on behind what is left, with the right sums.
func TestP9_2GoesOnBehindTornEnds(t *testing.T) {
	full := slotOf(4, "state", "one", "two")
	for end := 24 + 5; end <= len(full); end++ {
		j, r := openDisk(t, diskOf(nil, full[:end]), 256)
		var recs []string
		for _, rec := range r.Records {
			recs = append(recs, string(rec))
		}
		isAppend(t, j, "more", api.OK)
		isSync(t, j, 1)
		isDisk(t, j, nil, slotOf(4, "state", append(recs, "more")...))
	}
}

// Each bit of both slots, and each byte, against the document's reading.
func TestP9_2OneByteIsOther(t *testing.T) {
	a, b := slotOf(3, "abc", "x", "yy"), slotOf(2, "", "z", "long record")
	torn := append(bytes.Clone(a), a[27:37]...)
	for _, d := range []api.Disk{diskOf(a, b), diskOf(torn, b), diskOf(a, b[:30]), diskOf(a[:21], b)} {
		for s := range 2 {
			for i := range d.Slots[s] {
				was := d.Slots[s][i]
				for x := range 256 {
					d.Slots[s][i] = byte(x)
					holdOpen(t, d, 128)
				}
				d.Slots[s][i] = was
			}
		}
	}
}

// Disks put together by chance from pieces, right ones and wrong ones, sealed as they are.
func TestP9_2AnyPieces(t *testing.T) {
	rnd := rand.New(rand.NewSource(92))
	opened := 0
	for range 30000 {
		var d api.Disk
		for s := range 2 {
			d.Slots[s] = anySlot(rnd, s)
		}
		if j, _ := holdOpen(t, d, []int{64, 100, 300, mostLimit}[rnd.Intn(4)]); j != nil {
			opened++
		}
	}
	if opened < 5000 {
		t.Errorf("only %d disks could be opened", opened)
	}
}

func anySlot(rnd *rand.Rand, number int) []byte {
	gen := uint64(2*rnd.Intn(2) + 1 + number)
	if rnd.Intn(20) == 0 {
		gen = uint64(rnd.Intn(4))
	}
	state := make([]byte, rnd.Intn(8))
	rnd.Read(state)
	pieces := [][]byte{head(gen, len(state)+rnd.Intn(20)/19), state}
	for range rnd.Intn(4) {
		rec := make([]byte, 1+rnd.Intn(12))
		rnd.Read(rec)
		length := len(rec)
		if rnd.Intn(20) == 0 {
			length = rnd.Intn(14)
		}
		pieces = append(pieces, four(length), rec)
	}
	b := sealed(pieces...)
	if rnd.Intn(3) == 0 {
		b = b[:rnd.Intn(len(b)+1)]
	}
	if len(b) > 0 && rnd.Intn(10) == 0 {
		b[rnd.Intn(len(b))] ^= 1 << rnd.Intn(8)
	}
	return b
}

func TestP9_2AnyBytes(t *testing.T) {
	rnd := rand.New(rand.NewSource(922))
	for range 5000 {
		var d api.Disk
		for s := range 2 {
			d.Slots[s] = make([]byte, rnd.Intn(80))
			rnd.Read(d.Slots[s])
			if rnd.Intn(2) == 0 {
				copy(d.Slots[s], "SHJ1\x00\x00\x00\x00\x00\x00\x00\x01")
			}
		}
		holdOpen(t, d, 64+rnd.Intn(20))
	}
}

// The greatest state, records of the greatest length, and a slot that is full to the last byte.
func TestP9_2Greatest(t *testing.T) {
	state := long(mostState)
	room := mostLimit - 24 - mostState
	var recs []string
	for room >= 2*(12+mostRecord) {
		recs = append(recs, long(mostRecord))
		room -= 12 + mostRecord
	}
	last := (room - 24) / 2
	recs = append(recs, long(room-24-last), long(last))
	full := slotOf(7, state, recs...)
	if len(full) != mostLimit {
		t.Fatalf("%d bytes", len(full))
	}
	j, r := openDisk(t, diskOf(full, slotOf(6, state)), mostLimit)
	isStat(t, j, api.JournalStat{Gen: 7, Slot: 0, Records: len(recs), Bytes: mostLimit})
	if r.Gen != 7 || string(r.State) != state || len(r.Records) != len(recs) || r.Torn != 0 {
		t.Errorf("replayed generation %d, %d bytes, %d records, torn %d", r.Gen, len(r.State), len(r.Records), r.Torn)
	}
	for i, rec := range r.Records {
		if string(rec) != recs[i] {
			t.Errorf("record %d is other", i)
		}
	}
	isAppend(t, j, "x", api.ErrSlot)
	faulty(t, diskOf(turned(full, mostLimit-1, 0), nil), mostLimit, 0, mostLimit-4-last, api.ErrRot)
	faulty(t, diskOf(full, nil), mostLimit-1, 0, mostLimit-1, api.ErrSlots)
	if _, r := openDisk(t, diskOf(full[:mostLimit-1], nil), mostLimit); r.Torn != last+11 {
		t.Errorf("torn %d", r.Torn)
	}
}
