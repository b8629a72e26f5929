package journal_test

import (
	"bytes"
	"encoding/binary"
	"fmt"
	"hash/crc32"
	"slices"
	"testing"
	"unsafe"

	"shard/api"
	"shard/journal"
)

const top uint64 = 1<<64 - 1

// The limits that the document names.
const (
	leastLimit = 64
	mostLimit  = 16777216
	mostState  = 4194304
	mostRecord = 8192
)

// sealed lays pieces one behind the other, behind each the sum of all pieces so far.
func sealed(pieces ...[]byte) []byte {
	sum := uint32(0)
	var out []byte
	for _, piece := range pieces {
		sum = crc32.Update(sum, crc32.MakeTable(crc32.Castagnoli), piece)
		out = binary.BigEndian.AppendUint32(append(out, piece...), sum)
	}
	return out
}

func four(x int) []byte { return binary.BigEndian.AppendUint32(nil, uint32(x)) }

// head is a head without its sum.
func head(gen uint64, length int) []byte {
	return append(binary.BigEndian.AppendUint64([]byte{83, 72, 74, 49}, gen), four(length)...)
}

// docGen is a generation: what a whole slot says.
type docGen struct {
	gen   uint64
	state string
	recs  []string
}

func (g docGen) bytes() []byte {
	pieces := [][]byte{head(g.gen, len(g.state)), []byte(g.state)}
	for _, rec := range g.recs {
		pieces = append(pieces, four(len(rec)), []byte(rec))
	}
	return sealed(pieces...)
}

func (g docGen) home() int {
	if g.gen%2 == 1 {
		return 0
	}
	return 1
}

// slotOf gives the bytes of a slot.
func slotOf(gen uint64, state string, recs ...string) []byte { return docGen{gen, state, recs}.bytes() }

func diskOf(a, b []byte) api.Disk { return api.Disk{Slots: [2][]byte{a, b}} }

// docFound is what the chapter says of a slot: where it has rot (-1: nowhere), and the generation that it holds, if it is whole.
type docFound struct {
	rot   int
	whole bool
	docGen
	end int
}

// docRead goes through a slot as the chapter tells it. It sums up all bytes ahead anew at each sum.
func docRead(b []byte, number int) docFound {
	f := docFound{rot: -1}
	var plain []byte
	at := 0
	there := func(n int) bool { return at+n+4 <= len(b) }
	right := func(n int) bool {
		plain = append(plain, b[at:at+n]...)
		return binary.BigEndian.Uint32(b[at+n:]) == crc32.Checksum(plain, crc32.MakeTable(crc32.Castagnoli))
	}
	if !there(16) {
		return f
	}
	gen, length := binary.BigEndian.Uint64(b[4:]), int(binary.BigEndian.Uint32(b[12:]))
	if !right(16) || string(b[:4]) != "SHJ1" || gen == 0 || gen%2 == uint64(number) || length > mostState {
		f.rot = 0
		return f
	}
	if at = 20; !there(length) {
		return f
	}
	if !right(length) {
		f.rot = 20
		return f
	}
	f.whole, f.gen, f.state, f.end = true, gen, string(b[20:20+length]), 20+length+4
	for at = f.end; there(4); at = f.end {
		n := int(binary.BigEndian.Uint32(b[at:]))
		if !right(4) || n < 1 || n > mostRecord {
			f.rot = at
			return f
		}
		if at += 8; !there(n) {
			return f
		}
		if !right(n) {
			f.rot = at
			return f
		}
		f.recs = append(f.recs, string(b[at:at+n]))
		f.end = at + n + 4
	}
	return f
}

// docJournal says the chapter's rules once more, in other words than the package: it keeps generations, and makes bytes of them when it is asked.
type docJournal struct {
	limit  int
	now    docGen
	before *docGen // what the other slot holds
	synced int     // bytes
	safe   int     // records
	dead   bool
}

func docOpen(d api.Disk, limit int) (*docJournal, api.Replay, journal.Fault) {
	if limit < leastLimit || limit > mostLimit {
		return nil, api.Replay{}, journal.Fault{Slot: -1, Why: api.ErrSlots}
	}
	for i := range 2 {
		if len(d.Slots[i]) > limit {
			return nil, api.Replay{}, journal.Fault{Slot: i, At: limit, Why: api.ErrSlots}
		}
	}
	a, b := docRead(d.Slots[0], 0), docRead(d.Slots[1], 1)
	switch {
	case a.rot >= 0:
		return nil, api.Replay{}, journal.Fault{Slot: 0, At: a.rot, Why: api.ErrRot}
	case b.rot >= 0:
		return nil, api.Replay{}, journal.Fault{Slot: 1, At: b.rot, Why: api.ErrRot}
	case a.whole && b.whole && a.gen < b.gen && a.gen+1 != b.gen:
		return nil, api.Replay{}, journal.Fault{Slot: 0, At: 4, Why: api.ErrRot}
	case a.whole && b.whole && b.gen < a.gen && b.gen+1 != a.gen:
		return nil, api.Replay{}, journal.Fault{Slot: 1, At: 4, Why: api.ErrRot}
	case !a.whole && !b.whole:
		return nil, api.Replay{}, journal.Fault{Slot: -1, Why: api.ErrNoState}
	}
	used, other := a, b
	if !a.whole || b.whole && b.gen > a.gen {
		used, other = b, a
	}
	j := &docJournal{limit: limit, now: used.docGen, synced: used.end, safe: len(used.recs)}
	if other.whole {
		j.before = &other.docGen
	}
	r := api.Replay{Gen: used.gen, State: []byte(used.state), Torn: len(d.Slots[0]) + len(d.Slots[1]) - a.end - b.end}
	for _, rec := range used.recs {
		r.Records = append(r.Records, []byte(rec))
	}
	return j, r, journal.Fault{}
}

func (d *docJournal) append(rec []byte) api.Errno {
	switch {
	case d.dead:
		return api.ErrDead
	case len(rec) < 1 || len(rec) > mostRecord:
		return api.ErrRecord
	case len(d.now.bytes())+12+len(rec) > d.limit:
		return api.ErrSlot
	}
	d.now.recs = append(slices.Clone(d.now.recs), string(rec))
	return api.OK
}

func (d *docJournal) sync() (int, api.Errno) {
	if d.dead {
		return 0, api.ErrDead
	}
	n := len(d.now.recs) - d.safe
	d.synced, d.safe = len(d.now.bytes()), len(d.now.recs)
	return n, api.OK
}

func (d *docJournal) snapshot(state []byte) api.Errno {
	switch {
	case d.dead:
		return api.ErrDead
	case len(state) > mostState:
		return api.ErrRecord
	case d.now.gen == top:
		return api.ErrGen
	case 24+len(state) > d.limit:
		return api.ErrSlot
	}
	old := d.now
	d.before, d.now, d.synced, d.safe = &old, docGen{gen: old.gen + 1, state: string(state)}, 0, 0
	return api.OK
}

func (d *docJournal) left(keep int) api.Disk {
	var out api.Disk
	if d.dead {
		return out
	}
	all := d.now.bytes()
	if keep < len(all)-d.synced {
		all = all[:d.synced+keep]
	}
	out.Slots[d.now.home()] = all
	if d.before != nil {
		out.Slots[d.before.home()] = d.before.bytes()
	}
	return out
}

func (d *docJournal) crash(keep int) (api.Disk, api.Errno) {
	switch {
	case d.dead:
		return api.Disk{}, api.ErrDead
	case keep < 0:
		return api.Disk{}, api.ErrArg
	}
	out := d.left(keep)
	d.dead = true
	return out, api.OK
}

func (d *docJournal) stat() api.JournalStat {
	if d.dead {
		return api.JournalStat{}
	}
	size := len(d.now.bytes())
	return api.JournalStat{Gen: d.now.gen, Slot: d.now.home(), Records: len(d.now.recs), Bytes: size, Waiting: len(d.now.recs) - d.safe, Unsynced: size - d.synced}
}

// Helpers that ask the package.

func openDisk(t *testing.T, d api.Disk, limit int) (*journal.Journal, api.Replay) {
	t.Helper()
	j, r, err := journal.Open(d, limit)
	if j == nil || err != nil {
		t.Fatalf("Open(%s, %d): %v", brief(d), limit, err)
	}
	return j, r
}

// openFresh opens a new disk with this state.
func openFresh(t *testing.T, state string, limit int) *journal.Journal {
	t.Helper()
	d, e := journal.Fresh([]byte(state), limit)
	if e != api.OK {
		t.Fatalf("Fresh(%s, %d): %d", brief(state), limit, e)
	}
	j, _ := openDisk(t, d, limit)
	return j
}

// brief is a value as text, cut off where it gets long.
func brief(x any) string { return fmt.Sprintf("%.600s", fmt.Sprintf("%+v", x)) }

func sameDisk(a, b api.Disk) bool {
	return bytes.Equal(a.Slots[0], b.Slots[0]) && bytes.Equal(a.Slots[1], b.Slots[1])
}

func sameReplay(a, b api.Replay) bool {
	return a.Gen == b.Gen && bytes.Equal(a.State, b.State) && slices.EqualFunc(a.Records, b.Records, bytes.Equal) && a.Torn == b.Torn
}

func isZeroReplay(r api.Replay) bool { return sameReplay(r, api.Replay{}) }

func isReplay(t *testing.T, r api.Replay, gen uint64, state string, torn int, recs ...string) {
	t.Helper()
	want := api.Replay{Gen: gen, State: []byte(state), Torn: torn}
	for _, rec := range recs {
		want.Records = append(want.Records, []byte(rec))
	}
	if !sameReplay(r, want) {
		t.Errorf("replayed %s; want %s", brief(r), brief(want))
	}
}

func isAppend(t *testing.T, j *journal.Journal, rec string, want api.Errno) {
	t.Helper()
	if e := j.Append([]byte(rec)); e != want {
		t.Errorf("Append of %d bytes: %d; want %d", len(rec), e, want)
	}
}

func isSync(t *testing.T, j *journal.Journal, want int) {
	t.Helper()
	if n, e := j.Sync(); n != want || e != api.OK {
		t.Errorf("Sync: %d, %d; want %d, 0", n, e, want)
	}
}

func isSnapshot(t *testing.T, j *journal.Journal, state string, want api.Errno) {
	t.Helper()
	if e := j.Snapshot([]byte(state)); e != want {
		t.Errorf("Snapshot of %d bytes: %d; want %d", len(state), e, want)
	}
}

func isDisk(t *testing.T, j *journal.Journal, a, b []byte) {
	t.Helper()
	if d := j.Disk(); !sameDisk(d, diskOf(a, b)) {
		t.Errorf("Disk: %s; want %s", brief(d), brief(diskOf(a, b)))
	}
}

func isStat(t *testing.T, j *journal.Journal, want api.JournalStat) {
	t.Helper()
	if s := j.Stat(); s != want {
		t.Errorf("Stat: %+v; want %+v", s, want)
	}
}

// isJournal holds all that a journal tells of itself against the document's.
func isJournal(t *testing.T, j *journal.Journal, want *docJournal) {
	t.Helper()
	for range 2 { // telling changes nothing
		if s := j.Stat(); s != want.stat() {
			t.Fatalf("Stat: %+v; want %+v", s, want.stat())
		}
		if d := j.Disk(); !sameDisk(d, want.left(0)) {
			t.Fatalf("Disk: %s; want %s", brief(d), brief(want.left(0)))
		}
	}
}

// holdOpen holds Open of a disk against the document's; both journals, if there are any.
func holdOpen(t *testing.T, d api.Disk, limit int) (*journal.Journal, *docJournal) {
	t.Helper()
	j, r, err := journal.Open(d, limit)
	want, wantReplay, fault := docOpen(d, limit)
	if want == nil {
		isFault(t, j, r, err, fault)
		return nil, nil
	}
	if j == nil || err != nil || !sameReplay(r, wantReplay) {
		t.Fatalf("Open(%s, %d): %s, %v; want %s", brief(d), limit, brief(r), err, brief(wantReplay))
	}
	isJournal(t, j, want)
	return j, want
}

// isFault holds what Open has answered against a fault.
func isFault(t *testing.T, j *journal.Journal, r api.Replay, err error, want journal.Fault) {
	t.Helper()
	got, ok := err.(*journal.Fault)
	if !ok || got == nil || *got != want {
		t.Fatalf("Open: %v; want %v", err, &want)
	}
	if j != nil || !isZeroReplay(r) {
		t.Fatalf("Open: %s, %s beside %v", brief(j), brief(r), err)
	}
}

// faulty opens a disk that has this fault.
func faulty(t *testing.T, d api.Disk, limit int, slot, at int, why api.Errno) {
	t.Helper()
	j, r, err := journal.Open(d, limit)
	isFault(t, j, r, err, journal.Fault{Slot: slot, At: at, Why: why})
}

// turned gives bytes of which one bit is turned.
func turned(b []byte, at, bit int) []byte {
	b = bytes.Clone(b)
	b[at] ^= 1 << bit
	return b
}

// long gives a text of so many bytes.
func long(n int) string {
	b := make([]byte, n)
	for i := range b {
		b[i] = byte(i % 251)
	}
	return string(b)
}

// room is where a list lies, spare room included.
type room struct{ first, behind uintptr }

func roomOf[T any](list []T) []room {
	var one T
	if cap(list) == 0 {
		return nil
	}
	first := uintptr(unsafe.Pointer(unsafe.SliceData(list)))
	return []room{{first, first + uintptr(cap(list))*unsafe.Sizeof(one)}}
}

func roomsOfDisk(d api.Disk) []room { return append(roomOf(d.Slots[0]), roomOf(d.Slots[1])...) }

func roomsOfReplay(r api.Replay) []room {
	rooms := append(roomOf(r.State), roomOf(r.Records)...)
	for _, rec := range r.Records {
		rooms = append(rooms, roomOf(rec)...)
	}
	return rooms
}

func apart(rooms []room) bool {
	slices.SortFunc(rooms, func(a, b room) int { return int(a.first) - int(b.first) })
	for i := 1; i < len(rooms); i++ {
		if rooms[i-1].behind > rooms[i].first {
			return false
		}
	}
	return true
}

// spoil writes over a list of bytes and its spare room.
func spoil(b []byte) {
	b = b[:cap(b)]
	for i := range b {
		b[i] ^= 0x5a
	}
}

func spoilDisk(d api.Disk) {
	spoil(d.Slots[0])
	spoil(d.Slots[1])
}

func spoilReplay(r api.Replay) {
	spoil(r.State)
	for i, rec := range r.Records {
		spoil(rec)
		r.Records[i] = nil
	}
}
