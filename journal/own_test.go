package journal_test

import (
	"bytes"
	"math"
	"runtime"
	"testing"

	"shard/api"
	"shard/journal"
)

// refuses holds every call of a journal that takes none: the error that it answers, and nothing beside it.
func refuses(t *testing.T, j *journal.Journal, want api.Errno) {
	t.Helper()
	for _, b := range [][]byte{nil, {}, {1}, make([]byte, mostRecord+1), make([]byte, mostState+1)} {
		if e := j.Append(b); e != want {
			t.Errorf("Append of %d bytes: %d; want %d", len(b), e, want)
		}
		if e := j.Snapshot(b); e != want {
			t.Errorf("Snapshot of %d bytes: %d; want %d", len(b), e, want)
		}
	}
	if n, e := j.Sync(); n != 0 || e != want {
		t.Errorf("Sync: %d, %d; want 0, %d", n, e, want)
	}
	for _, keep := range []int{math.MinInt, -1, 0, 1, math.MaxInt} {
		if d, e := j.Crash(keep); !sameDisk(d, api.Disk{}) || e != want {
			t.Errorf("Crash(%d): %v, %d; want %d", keep, d, e, want)
		}
	}
	isDisk(t, j, nil, nil)
	isStat(t, j, api.JournalStat{})
}

func isDead(t *testing.T, j *journal.Journal) {
	t.Helper()
	refuses(t, j, api.ErrDead)
}

func TestP9_11Nil(t *testing.T) { refuses(t, nil, api.ErrNil) }

func TestP9_11Dead(t *testing.T) {
	for _, play := range []string{"", "a", "as", "n", "nas", "nsab"} {
		j, _, _ := history(t, play)
		if _, e := j.Crash(5); e != api.OK {
			t.Fatalf("%s: %d", play, e)
		}
		isDead(t, j)
		isDead(t, j)
	}
}

// The disk that a crash has left lives on by itself; the journal stays dead.
func TestP9_11DeadForGood(t *testing.T) {
	j, _, _ := history(t, "asb")
	d, _ := j.Crash(0)
	k, _ := openDisk(t, d, 512)
	isAppend(t, k, "x", api.OK)
	isDead(t, j)
	isSync(t, k, 1)
}

// A journal that the package did not make takes calls without a panic.
func TestP9_12ZeroJournal(t *testing.T) {
	var j journal.Journal
	j.Append([]byte{1})
	j.Sync()
	j.Snapshot(nil)
	j.Stat()
	j.Disk()
	j.Crash(3)
}

// What is handed in may be written over, and is not written to.
func TestP9_12HandedIn(t *testing.T) {
	state := append(make([]byte, 0, 64), "state"...)
	fresh, _ := journal.Fresh(state, 256)
	if string(state) != "state" {
		t.Errorf("Fresh writes to its state: %q", state)
	}
	spoil(state)
	if !sameDisk(fresh, diskOf(slotOf(1, "state"), nil)) {
		t.Error("Fresh keeps its state")
	}
	d := diskOf(roomy(slotOf(3, "new", "r", "s"), "torn"), roomy(slotOf(2, "old", "x"), "end"))
	before := diskOf(bytes.Clone(d.Slots[0]), bytes.Clone(d.Slots[1]))
	j, r := openDisk(t, d, 256)
	rec := append(make([]byte, 0, 64), "rec"...)
	j.Append(rec)
	if string(rec) != "rec" || !sameDisk(d, before) || !allZero(d.Slots[0]) || !allZero(d.Slots[1]) {
		t.Error("Open or Append writes to what it is given")
	}
	spoilDisk(d)
	spoil(rec)
	isReplay(t, r, 3, "new", 7, "r", "s")
	isSync(t, j, 1)
	isDisk(t, j, slotOf(3, "new", "r", "s", "rec"), slotOf(2, "old", "x"))
	next := append(make([]byte, 0, 64), "next"...)
	j.Snapshot(next)
	if string(next) != "next" {
		t.Error("Snapshot writes to its state")
	}
	spoil(next)
	isSync(t, j, 0)
	isDisk(t, j, slotOf(3, "new", "r", "s", "rec"), slotOf(4, "next"))
}

// roomy joins bytes and a text, with spare room behind them.
func roomy(b []byte, text string) []byte {
	return append(append(make([]byte, 0, 200), b...), text...)
}

// allZero tells whether the spare room of a list has never been written to.
func allZero(b []byte) bool {
	for _, c := range b[len(b):cap(b)] {
		if c != 0 {
			return false
		}
	}
	return true
}

// Answers may be written over: the journal and the other answers don't see it.
func TestP9_12Answered(t *testing.T) {
	a, b := slotOf(3, "new", "r", "s"), slotOf(2, "old", "x")
	for range 3 {
		fresh, _ := journal.Fresh([]byte("state"), 64)
		spoilDisk(fresh)
	}
	j, r := openDisk(t, diskOf(a, b), 256)
	_, again := openDisk(t, diskOf(a, b), 256)
	spoilReplay(r)
	isReplay(t, again, 3, "new", 0, "r", "s")
	for range 3 {
		d := j.Disk()
		if !sameDisk(d, diskOf(a, b)) {
			t.Fatalf("Disk: %v", d)
		}
		spoilDisk(d)
	}
	isAppend(t, j, "t", api.OK)
	spoilDisk(j.Disk())
	isSync(t, j, 1)
	isDisk(t, j, slotOf(3, "new", "r", "s", "t"), b)
	isSnapshot(t, j, "4", api.OK)
	spoilDisk(j.Disk())
	isAppend(t, j, "u", api.OK)
	d, _ := j.Crash(1 << 20)
	if !sameDisk(d, diskOf(slotOf(3, "new", "r", "s", "t"), slotOf(4, "4", "u"))) {
		t.Errorf("Crash: %v", d)
	}
}

// No two lists that were answered, of one call or of several, share memory.
func TestP9_12Apart(t *testing.T) {
	fresh, _ := journal.Fresh([]byte("state"), 256)
	given := diskOf(roomy(slotOf(3, "new", "r", "second", long(40)), "torn"), roomy(slotOf(2, "old", "x"), ""))
	j, r := openDisk(t, given, 256)
	_, again := openDisk(t, given, 256)
	rec, state := []byte("rec"), []byte("state")
	disks := []api.Disk{fresh, given, j.Disk()}
	j.Append(rec)
	disks = append(disks, j.Disk())
	j.Sync()
	disks = append(disks, j.Disk())
	j.Snapshot(state)
	disks = append(disks, j.Disk())
	j.Append(rec)
	crashed, _ := j.Crash(30)
	disks = append(disks, crashed)
	rooms := append(roomOf(rec), roomOf(state)...)
	rooms = append(append(rooms, roomsOfReplay(r)...), roomsOfReplay(again)...)
	for _, d := range disks {
		rooms = append(rooms, roomsOfDisk(d)...)
	}
	if !apart(rooms) {
		t.Error("two lists share memory")
	}
	// All of them are held until they are compared: else the collector could give one's memory to another.
	runtime.KeepAlive([]any{rec, state, r, again, disks})
}

// What is appended to an answer is seen by no other answer.
func TestP9_12AppendedTo(t *testing.T) {
	_, r := openDisk(t, diskOf(slotOf(1, "state", "one", "two", "three"), nil), 256)
	_ = append(r.State, long(200)...)
	for _, rec := range r.Records {
		_ = append(rec, long(200)...)
	}
	isReplay(t, r, 1, "state", 0, "one", "two", "three")
}

// Two journals on one disk know nothing of one another.
func TestP9_12TwoJournals(t *testing.T) {
	d, _ := journal.Fresh(nil, 256)
	a, _ := openDisk(t, d, 256)
	b, _ := openDisk(t, d, 256)
	isAppend(t, a, "a", api.OK)
	isAppend(t, b, "b", api.OK)
	isSync(t, a, 1)
	isSnapshot(t, b, "bb", api.OK)
	isDisk(t, a, slotOf(1, "", "a"), nil)
	isDisk(t, b, slotOf(1, "", "b"), nil)
	a.Crash(0)
	isSync(t, b, 0)
	isDisk(t, b, slotOf(1, "", "b"), slotOf(2, "bb"))
}
