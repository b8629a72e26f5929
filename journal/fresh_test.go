package journal_test

import (
	"bytes"
	"math"
	"testing"

	"shard/api"
	"shard/journal"
)

// The document's first example, its sum worked out by hand from the polynomial.
func TestP9_1FreshExample(t *testing.T) {
	d, e := journal.Fresh(nil, 64)
	plain := []byte{83, 72, 74, 49, 0, 0, 0, 0, 0, 0, 0, 1, 0, 0, 0, 0}
	sum := ^uint32(0)
	for _, c := range plain {
		sum ^= uint32(c)
		for range 8 {
			sum = sum>>1 ^ sum&1*0x82F63B78
		}
	}
	sum = ^sum
	four := []byte{byte(sum >> 24), byte(sum >> 16), byte(sum >> 8), byte(sum)}
	want := append(append(plain, four...), four...)
	if !bytes.Equal(d.Slots[0], want) || len(d.Slots[1]) != 0 || len(want) != 24 || e != api.OK {
		t.Errorf("%v, %d; want %v", d, e, want)
	}
}

func TestP9_1FreshBytes(t *testing.T) {
	for _, state := range []string{"", "\x00", "a", "ab", long(40), long(255), long(256), long(65536), long(70000), long(mostState)} {
		for _, limit := range []int{leastLimit, 24 + len(state), 25 + len(state), mostLimit} {
			if limit < leastLimit || limit < 24+len(state) {
				continue
			}
			d, e := journal.Fresh([]byte(state), limit)
			if e != api.OK || !sameDisk(d, diskOf(slotOf(1, state), nil)) {
				t.Errorf("a state of %d bytes, limit %d: %d and %d bytes, %d", len(state), limit, len(d.Slots[0]), len(d.Slots[1]), e)
			}
		}
	}
}

func TestP9_1FreshRefused(t *testing.T) {
	for _, c := range []struct {
		size, limit int
		want        api.Errno
	}{
		{0, 63, api.ErrSlots},
		{0, 0, api.ErrSlots},
		{0, -1, api.ErrSlots},
		{0, -64, api.ErrSlots},
		{0, math.MinInt, api.ErrSlots},
		{0, mostLimit + 1, api.ErrSlots},
		{0, math.MaxInt, api.ErrSlots},
		{41, 64, api.ErrSlot},
		{1 << 20, 1<<20 + 23, api.ErrSlot},
		{mostState, mostState + 23, api.ErrSlot},
		{mostState, 64, api.ErrSlot},
		{mostState + 1, mostLimit, api.ErrRecord},
		// The first of several errors.
		{mostState + 1, 64, api.ErrRecord},
		{mostState + 1, 63, api.ErrSlots},
		{mostState + 1, mostLimit + 1, api.ErrSlots},
		{64, 63, api.ErrSlots},
	} {
		if d, e := journal.Fresh(make([]byte, c.size), c.limit); e != c.want || !sameDisk(d, api.Disk{}) {
			t.Errorf("a state of %d bytes, limit %d: %d and %d bytes, %d; want %d", c.size, c.limit, len(d.Slots[0]), len(d.Slots[1]), e, c.want)
		}
	}
}

// What Fresh gives is a disk that Open takes.
func TestP9_1FreshIsOpened(t *testing.T) {
	for _, state := range []string{"", "s", long(40)} {
		d, _ := journal.Fresh([]byte(state), 64)
		j, r := openDisk(t, d, 64)
		isReplay(t, r, 1, state, 0)
		isStat(t, j, api.JournalStat{Gen: 1, Slot: 0, Bytes: 24 + len(state)})
		isDisk(t, j, slotOf(1, state), nil)
	}
}
