package journal_test

import (
	"math"
	"slices"
	"testing"

	"shard/api"
	"shard/journal"
)

// The document's third example.
func TestP9_6CrashExamples(t *testing.T) {
	for _, c := range []struct {
		keep, bytes, torn int
		recs              []string
	}{{12, 36, 12, nil}, {13, 37, 0, []string{"\x07"}}, {7, 31, 7, nil}} {
		j := openFresh(t, "", 64)
		isAppend(t, j, "\x07", api.OK)
		d, e := j.Crash(c.keep)
		if e != api.OK || !sameDisk(d, diskOf(slotOf(1, "", "\x07")[:c.bytes], nil)) {
			t.Errorf("Crash(%d): %v, %d", c.keep, d, e)
		}
		j, r := openDisk(t, d, 64)
		isReplay(t, r, 1, "", c.torn, c.recs...)
		isStat(t, j, api.JournalStat{Gen: 1, Records: len(c.recs), Bytes: 24 + 13*len(c.recs)})
	}
}

// Every keep of a journal of which all, some and none is synced.
func TestP9_6CrashOfAllKeeps(t *testing.T) {
	makers := []func() *journal.Journal{
		func() *journal.Journal { return openFresh(t, "st", 256) },
		func() *journal.Journal {
			j := openFresh(t, "st", 256)
			isAppend(t, j, "one", api.OK)
			isSync(t, j, 1)
			isAppend(t, j, "two", api.OK)
			isAppend(t, j, "three", api.OK)
			return j
		},
		func() *journal.Journal {
			j := openFresh(t, "st", 256)
			isAppend(t, j, "one", api.OK)
			isSnapshot(t, j, "new", api.OK)
			isAppend(t, j, "two", api.OK)
			return j
		},
	}
	alls := []api.Disk{
		diskOf(slotOf(1, "st"), nil),
		diskOf(slotOf(1, "st", "one", "two", "three"), nil),
		diskOf(slotOf(1, "st", "one"), slotOf(2, "new", "two")),
	}
	for i, make := range makers {
		s := make().Stat()
		keeps := []int{s.Unsynced + 1, s.Unsynced + 2, 1 << 31, math.MaxInt - 1, math.MaxInt}
		for keep := range s.Unsynced + 1 {
			keeps = append(keeps, keep)
		}
		for _, keep := range keeps {
			want := alls[i]
			end := s.Bytes - s.Unsynced + min(keep, s.Unsynced)
			want.Slots[s.Slot] = want.Slots[s.Slot][:end]
			j := make()
			if keep == 0 {
				isDisk(t, j, want.Slots[0], want.Slots[1])
			}
			if d, e := j.Crash(keep); e != api.OK || !sameDisk(d, want) {
				t.Errorf("journal %d: Crash(%d): %v, %d; want %v", i, keep, d, e, want)
			}
			isDead(t, j)
		}
	}
}

func TestP9_6CrashRefused(t *testing.T) {
	j := openFresh(t, "st", 64)
	isAppend(t, j, "a", api.OK)
	stat := j.Stat()
	for _, keep := range []int{-1, -2, -64, math.MinInt} {
		if d, e := j.Crash(keep); e != api.ErrArg || !sameDisk(d, api.Disk{}) {
			t.Errorf("Crash(%d): %v, %d", keep, d, e)
		}
	}
	isStat(t, j, stat)
	isSync(t, j, 1)
	isDisk(t, j, slotOf(1, "st", "a"), nil)
}

// generation is what a history has laid down of one generation, and how much of it is synced.
type generation struct {
	state  string
	recs   []string
	safe   int
	synced bool // head and state are
}

// history plays letters on a journal: a and b append, s syncs, n begins anew. It tells the last two generations.
func history(t *testing.T, play string) (*journal.Journal, generation, generation) {
	t.Helper()
	j := openFresh(t, "first", 512)
	var before generation
	now := generation{state: "first", synced: true}
	for i, c := range play {
		switch c {
		case 'a', 'b':
			rec := string(c) + long(i)
			isAppend(t, j, rec, api.OK)
			now.recs = append(now.recs, rec)
		case 's':
			isSync(t, j, len(now.recs)-now.safe)
			now.safe, now.synced = len(now.recs), true
		case 'n':
			isSnapshot(t, j, long(i%3), api.OK)
			before, now = now, generation{state: long(i % 3)}
		}
	}
	return j, before, now
}

// All histories of up to five steps, each with all keeps.
func TestP9_8AllCrashes(t *testing.T) {
	plays := []string{""}
	for i := 0; i < len(plays); i++ {
		play := plays[i]
		if len(play) < 5 {
			plays = append(plays, play+"a", play+"b", play+"s", play+"n")
		}
		j, _, _ := history(t, play)
		for keep := range j.Stat().Unsynced + 1 {
			holdCrash(t, play, keep)
		}
	}
}

func holdCrash(t *testing.T, play string, keep int) {
	t.Helper()
	j, before, now := history(t, play)
	gen := j.Stat().Gen
	whole := j.Stat().Unsynced == keep
	d, e := j.Crash(keep)
	if e != api.OK {
		t.Fatalf("%s: Crash(%d): %d", play, keep, e)
	}
	_, r, err := journal.Open(d, 512)
	if err != nil {
		t.Fatalf("%s: Crash(%d): %v", play, keep, err)
	}
	var recs []string
	for _, rec := range r.Records {
		recs = append(recs, string(rec))
	}
	of := now
	if r.Gen != gen {
		if now.synced || r.Gen != gen-1 || !slices.Equal(recs, before.recs) {
			t.Fatalf("%s: Crash(%d) leaves generation %d of %d, %q", play, keep, r.Gen, gen, recs)
		}
		of = before
	} else if len(recs) < now.safe || len(recs) > len(now.recs) || !slices.Equal(recs, now.recs[:len(recs)]) {
		t.Fatalf("%s: Crash(%d) leaves the records %q of %q, of which %d are synced", play, keep, recs, now.recs, now.safe)
	}
	if string(r.State) != of.state {
		t.Fatalf("%s: Crash(%d) leaves the state %q", play, keep, r.State)
	}
	if whole && (r.Gen != gen || len(recs) != len(now.recs) || r.Torn != 0) {
		t.Fatalf("%s: Crash(%d) keeps all, but %q are left", play, keep, recs)
	}
}

// Crash behind crash: what one Open has left is there behind the next crash too.
func TestP9_8CrashesInARow(t *testing.T) {
	for keep := range 40 {
		for again := range 40 {
			j := openFresh(t, "s", 256)
			isAppend(t, j, "one", api.OK)
			isSync(t, j, 1)
			isSnapshot(t, j, "two", api.OK)
			d, _ := j.Crash(keep)
			j, r := openDisk(t, d, 256)
			gen, recs := r.Gen, len(r.Records)
			isAppend(t, j, "more", api.OK)
			d, _ = j.Crash(again)
			j, r = openDisk(t, d, 256)
			if r.Gen != gen || len(r.Records) < recs || len(r.Records) > recs+1 {
				t.Fatalf("Crash(%d), Crash(%d): generation %d behind %d, %d records behind %d", keep, again, r.Gen, gen, len(r.Records), recs)
			}
			isSnapshot(t, j, "on", api.OK)
			isSync(t, j, 0)
			_, r = openDisk(t, j.Disk(), 256)
			isReplay(t, r, gen+1, "on", 0)
		}
	}
}

// Each bit of disks that Fresh, Disk and Crash have answered, but for torn ends and slots that are not whole.
func TestP9_9OneBit(t *testing.T) {
	fresh, _ := journal.Fresh([]byte("state"), 64)
	empty, _ := journal.Fresh(nil, 64)
	disks := []api.Disk{fresh, empty}
	for _, play := range []string{"", "a", "as", "asb", "nsa", "absnasb", "anbsna", "ansbnabs", "nnn", "nnnn"} {
		j, _, _ := history(t, play)
		disks = append(disks, j.Disk())
		for keep := range j.Stat().Unsynced + 1 {
			j, _, _ := history(t, play)
			d, _ := j.Crash(keep)
			disks = append(disks, d)
		}
	}
	turns := 0
	for _, d := range disks {
		for s := range 2 {
			found := docRead(d.Slots[s], s)
			for i := range d.Slots[s] {
				for bit := range 8 {
					bad := d
					bad.Slots[s] = turned(d.Slots[s], i, bit)
					if !found.whole || i >= found.end {
						holdOpen(t, bad, 512)
						continue
					}
					turns++
					j, r, err := journal.Open(bad, 512)
					if slot, _, why := journal.Reason(err); j != nil || !isZeroReplay(r) || slot != s || why != api.ErrRot {
						t.Fatalf("slot %d, bit %d of byte %d of %v: %v", s, bit, i, d, err)
					}
				}
			}
		}
	}
	if turns < 10000 {
		t.Errorf("only %d bits were turned", turns)
	}
}
