package journal_test

import (
	"bytes"
	"testing"

	"shard/api"
	"shard/journal"
)

// The document's second and fourth examples.
func TestP9_3AppendExamples(t *testing.T) {
	j := openFresh(t, "", 64)
	isAppend(t, j, "\x07", api.OK)
	isStat(t, j, api.JournalStat{Gen: 1, Slot: 0, Records: 1, Bytes: 37, Waiting: 1, Unsynced: 13})
	isAppend(t, j, "\x07", api.OK)
	isAppend(t, j, "\x07", api.OK)
	isAppend(t, j, "\x07", api.ErrSlot)
	isStat(t, j, api.JournalStat{Gen: 1, Slot: 0, Records: 3, Bytes: 63, Waiting: 3, Unsynced: 39})
	j = openFresh(t, "", 64)
	isAppend(t, j, long(29), api.ErrSlot)
	isAppend(t, j, long(28), api.OK)
}

func TestP9_3AppendLengths(t *testing.T) {
	j := openFresh(t, "s", 30000)
	isAppend(t, j, "", api.ErrRecord)
	if e := j.Append(nil); e != api.ErrRecord {
		t.Errorf("no record: %d", e)
	}
	isAppend(t, j, long(mostRecord+1), api.ErrRecord)
	isAppend(t, j, long(1<<20), api.ErrRecord)
	isStat(t, j, api.JournalStat{Gen: 1, Bytes: 25})
	isAppend(t, j, long(mostRecord), api.OK)
	isAppend(t, j, long(1), api.OK)
	isAppend(t, j, long(256), api.OK)
	isSync(t, j, 3)
	isDisk(t, j, slotOf(1, "s", long(mostRecord), long(1), long(256)), nil)
}

// A record that just fits and one that doesn't, at every fill of a small slot, synced or not; what is refused changes nothing.
func TestP9_3AppendUpToTheLimit(t *testing.T) {
	for limit := 64; limit <= 90; limit++ {
		for size := 0; size <= limit-24; size++ {
			for _, sync := range []bool{true, false} {
				j := openFresh(t, "", limit)
				isSnapshot(t, j, long(size), api.OK)
				if sync {
					isSync(t, j, 0)
				}
				before, stat := j.Disk(), j.Stat()
				left := limit - 24 - size - 12
				isAppend(t, j, long(max(left, 0)+1), api.ErrSlot)
				isAppend(t, j, "", api.ErrRecord)
				if !sameDisk(j.Disk(), before) || j.Stat() != stat {
					t.Fatalf("limit %d, state of %d bytes: what is refused changes something", limit, size)
				}
				if left > 0 {
					isAppend(t, j, long(left), api.OK)
					isAppend(t, j, "x", api.ErrSlot)
				}
			}
		}
	}
}

// An error that is named first counts: a record that may not be, in a slot that has no room for it either.
func TestP9_3AppendFirstError(t *testing.T) {
	j := openFresh(t, long(40), 64)
	isAppend(t, j, "", api.ErrRecord)
	isAppend(t, j, long(mostRecord+1), api.ErrRecord)
	isAppend(t, j, long(mostRecord), api.ErrSlot)
	isAppend(t, j, "x", api.ErrSlot)
}

// A limit that is another than the one the disk was made with.
func TestP9_3AppendUnderAnotherLimit(t *testing.T) {
	d, _ := journal.Fresh([]byte("st"), mostLimit)
	j, _ := openDisk(t, d, 64)
	isAppend(t, j, long(27), api.ErrSlot)
	isAppend(t, j, long(26), api.OK)
	isSync(t, j, 1)
	j, r := openDisk(t, j.Disk(), 100)
	isReplay(t, r, 1, "st", 0, long(26))
	isAppend(t, j, long(25), api.ErrSlot)
	isAppend(t, j, long(24), api.OK)
	isSnapshot(t, j, long(77), api.ErrSlot)
	isSnapshot(t, j, long(76), api.OK)
}

// A slot is filled to its greatest limit by the shortest records.
func TestP9_3AppendManyRecords(t *testing.T) {
	j := openFresh(t, "", mostLimit)
	count := (mostLimit - 24) / 13
	for i := range count {
		if e := j.Append([]byte{byte(i)}); e != api.OK {
			t.Fatalf("record %d: %d", i, e)
		}
	}
	isAppend(t, j, "x", api.ErrSlot)
	isStat(t, j, api.JournalStat{Gen: 1, Records: count, Bytes: 24 + 13*count, Waiting: count, Unsynced: 13 * count})
	isSync(t, j, count)
	_, r := openDisk(t, j.Disk(), mostLimit)
	if len(r.Records) != count || r.Torn != 0 {
		t.Fatalf("%d records are replayed, torn %d", len(r.Records), r.Torn)
	}
	for i, rec := range r.Records {
		if !bytes.Equal(rec, []byte{byte(i)}) {
			t.Fatalf("record %d is %v", i, rec)
		}
	}
}

func TestP9_4Sync(t *testing.T) {
	j := openFresh(t, "state", 256)
	isSync(t, j, 0)
	for round := range 4 {
		for range round {
			isAppend(t, j, "rec", api.OK)
		}
		isSync(t, j, round)
		isSync(t, j, 0)
	}
	isDisk(t, j, slotOf(1, "state", "rec", "rec", "rec", "rec", "rec", "rec"), nil)
	isStat(t, j, api.JournalStat{Gen: 1, Records: 6, Bytes: 24 + 5 + 6*15})
}

// Behind a Snapshot bytes wait, but no record does.
func TestP9_4SyncOfAState(t *testing.T) {
	j := openFresh(t, "", 256)
	isAppend(t, j, "a", api.OK)
	isSnapshot(t, j, "new", api.OK)
	isDisk(t, j, slotOf(1, "", "a"), nil)
	isSync(t, j, 0)
	isDisk(t, j, slotOf(1, "", "a"), slotOf(2, "new"))
	isStat(t, j, api.JournalStat{Gen: 2, Slot: 1, Bytes: 27})
	isSnapshot(t, j, "newer", api.OK)
	isAppend(t, j, "b", api.OK)
	isAppend(t, j, "c", api.OK)
	isSync(t, j, 2)
	isDisk(t, j, slotOf(3, "newer", "b", "c"), slotOf(2, "new"))
}

// Records that were replayed are synced already.
func TestP9_4SyncBehindOpen(t *testing.T) {
	j, _ := openDisk(t, diskOf(slotOf(1, "", "a", "b"), nil), 256)
	isStat(t, j, api.JournalStat{Gen: 1, Records: 2, Bytes: 50})
	isSync(t, j, 0)
	isAppend(t, j, "c", api.OK)
	isStat(t, j, api.JournalStat{Gen: 1, Records: 3, Bytes: 63, Waiting: 1, Unsynced: 13})
	isSync(t, j, 1)
}

// The document's fifth example.
func TestP9_5SnapshotExample(t *testing.T) {
	for _, keep := range []int{25, 26} {
		j := openFresh(t, "", 64)
		isAppend(t, j, "\x07", api.OK)
		isSnapshot(t, j, "\x01\x02", api.OK)
		isStat(t, j, api.JournalStat{Gen: 2, Slot: 1, Bytes: 26, Unsynced: 26})
		isDisk(t, j, slotOf(1, "", "\x07"), nil)
		d, _ := j.Crash(keep)
		k, r := openDisk(t, d, 64)
		if keep == 25 {
			isReplay(t, r, 1, "", 25, "\x07")
			isDisk(t, k, slotOf(1, "", "\x07"), nil)
			continue
		}
		isReplay(t, r, 2, "\x01\x02", 0)
		isDisk(t, k, slotOf(1, "", "\x07"), slotOf(2, "\x01\x02"))
	}
}

// Each Snapshot empties the slot of the generation before the last, whether it is synced or not.
func TestP9_5SnapshotsInARow(t *testing.T) {
	for _, sync := range []bool{true, false} {
		j := openFresh(t, "1", 256)
		slots := [2][]byte{slotOf(1, "1")}
		for gen := uint64(2); gen < 12; gen++ {
			state := long(int(gen))
			isSnapshot(t, j, state, api.OK)
			slots[(gen+1)%2] = nil
			isDisk(t, j, slots[0], slots[1])
			isStat(t, j, api.JournalStat{Gen: gen, Slot: int((gen + 1) % 2), Bytes: 24 + int(gen), Unsynced: 24 + int(gen)})
			isAppend(t, j, "r", api.OK)
			if sync {
				isSync(t, j, 1)
				isDisk(t, j, put(slots, gen, slotOf(gen, state, "r"))[0], put(slots, gen, slotOf(gen, state, "r"))[1])
			}
			slots = put(slots, gen, slotOf(gen, state, "r"))
		}
	}
}

// put lays bytes into the slot of a generation.
func put(slots [2][]byte, gen uint64, b []byte) [2][]byte {
	slots[(gen+1)%2] = b
	return slots
}

func TestP9_5SnapshotRefused(t *testing.T) {
	j := openFresh(t, "s", 64)
	isAppend(t, j, "a", api.OK)
	isSync(t, j, 1)
	isAppend(t, j, "b", api.OK)
	before, stat := j.Disk(), j.Stat()
	isSnapshot(t, j, long(41), api.ErrSlot)
	isSnapshot(t, j, long(mostState), api.ErrSlot)
	isSnapshot(t, j, long(mostState+1), api.ErrRecord)
	if !sameDisk(j.Disk(), before) || j.Stat() != stat {
		t.Errorf("what is refused changes something: %+v", j.Stat())
	}
	isSync(t, j, 1)
	isSnapshot(t, j, long(40), api.OK)
	big := openFresh(t, "", mostLimit)
	isSnapshot(t, big, long(mostState+1), api.ErrRecord)
	isSnapshot(t, big, long(mostState), api.OK)
	isSync(t, big, 0)
	isDisk(t, big, slotOf(1, ""), slotOf(2, long(mostState)))
}

func TestP9_5LastGenerations(t *testing.T) {
	j, _ := openDisk(t, diskOf(nil, slotOf(top-1, "x")), 64)
	isSnapshot(t, j, "last", api.OK)
	isStat(t, j, api.JournalStat{Gen: top, Slot: 0, Bytes: 28, Unsynced: 28})
	isAppend(t, j, "r", api.OK)
	before, stat := j.Disk(), j.Stat()
	isSnapshot(t, j, "", api.ErrGen)
	isSnapshot(t, j, long(41), api.ErrGen)
	isSnapshot(t, j, long(mostState), api.ErrGen)
	isSnapshot(t, j, long(mostState+1), api.ErrRecord)
	if !sameDisk(j.Disk(), before) || j.Stat() != stat {
		t.Errorf("what is refused changes something: %+v", j.Stat())
	}
	isAppend(t, j, "s", api.OK)
	isSync(t, j, 2)
	isDisk(t, j, slotOf(top, "last", "r", "s"), slotOf(top-1, "x"))
	_, r := openDisk(t, j.Disk(), 64)
	isReplay(t, r, top, "last", 0, "r", "s")
}

// Stat counts on through appends, syncs and new generations.
func TestP9_7Stat(t *testing.T) {
	j := openFresh(t, "abc", 256)
	isStat(t, j, api.JournalStat{Gen: 1, Bytes: 27})
	isAppend(t, j, "12345", api.OK)
	isStat(t, j, api.JournalStat{Gen: 1, Records: 1, Bytes: 44, Waiting: 1, Unsynced: 17})
	isSync(t, j, 1)
	isStat(t, j, api.JournalStat{Gen: 1, Records: 1, Bytes: 44})
	isAppend(t, j, "1", api.OK)
	isAppend(t, j, "12", api.OK)
	isStat(t, j, api.JournalStat{Gen: 1, Records: 3, Bytes: 71, Waiting: 2, Unsynced: 27})
	isSnapshot(t, j, "", api.OK)
	isStat(t, j, api.JournalStat{Gen: 2, Slot: 1, Bytes: 24, Unsynced: 24})
	isAppend(t, j, "x", api.OK)
	isStat(t, j, api.JournalStat{Gen: 2, Slot: 1, Records: 1, Bytes: 37, Waiting: 1, Unsynced: 37})
	isSync(t, j, 1)
	isStat(t, j, api.JournalStat{Gen: 2, Slot: 1, Records: 1, Bytes: 37})
}
