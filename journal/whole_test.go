package journal_test

import (
	"math"
	"math/rand"
	"testing"

	"shard/api"
	"shard/journal"
)

// Calls by chance, wrong ones among them, each held against the document's journal; now and then a crash, and the disk is opened again, under another limit too.
func TestP9_AllCallsByChance(t *testing.T) {
	rnd := rand.New(rand.NewSource(9))
	for range 300 {
		limit := 64 + rnd.Intn(400)
		d, _ := journal.Fresh([]byte(long(rnd.Intn(40))), limit)
		j, want := holdOpen(t, d, limit)
		for range 150 {
			if want.dead {
				if j, want = reopen(t, rnd, d, limit); j == nil {
					break
				}
			}
			switch rnd.Intn(12) {
			case 0:
				d = chanceCrash(t, rnd, j, want)
			case 1:
				chanceSnapshot(t, rnd, j, want)
			case 2, 3:
				n, e := j.Sync()
				if m, f := want.sync(); n != m || e != f {
					t.Fatalf("Sync: %d, %d; want %d, %d", n, e, m, f)
				}
			default:
				chanceAppend(t, rnd, j, want)
			}
			isJournal(t, j, want)
		}
	}
}

// reopen opens what a crash has left: at times one bit of it is turned ahead of that, which is told, or is seen in a torn end alone.
func reopen(t *testing.T, rnd *rand.Rand, d api.Disk, limit int) (*journal.Journal, *docJournal) {
	t.Helper()
	if s := rnd.Intn(2); rnd.Intn(4) == 0 && len(d.Slots[s]) > 0 {
		bad := d
		bad.Slots[s] = turned(d.Slots[s], rnd.Intn(len(d.Slots[s])), rnd.Intn(8))
		holdOpen(t, bad, limit)
	}
	return holdOpen(t, d, limit)
}

func chanceCrash(t *testing.T, rnd *rand.Rand, j *journal.Journal, want *docJournal) api.Disk {
	t.Helper()
	keep := rnd.Intn(120) - 5
	if rnd.Intn(10) == 0 {
		keep = math.MaxInt - rnd.Intn(3)
	}
	d, e := j.Crash(keep)
	if w, f := want.crash(keep); !sameDisk(d, w) || e != f {
		t.Fatalf("Crash(%d): %v, %d; want %v, %d", keep, d, e, w, f)
	}
	return d
}

func chanceSnapshot(t *testing.T, rnd *rand.Rand, j *journal.Journal, want *docJournal) {
	t.Helper()
	state := make([]byte, rnd.Intn(60))
	if rnd.Intn(30) == 0 {
		state = make([]byte, mostState+rnd.Intn(2))
	}
	rnd.Read(state[:min(len(state), 60)])
	if e, f := j.Snapshot(state), want.snapshot(state); e != f {
		t.Fatalf("Snapshot of %d bytes: %d; want %d", len(state), e, f)
	}
}

func chanceAppend(t *testing.T, rnd *rand.Rand, j *journal.Journal, want *docJournal) {
	t.Helper()
	rec := make([]byte, rnd.Intn(50))
	if rnd.Intn(30) == 0 {
		rec = make([]byte, mostRecord+rnd.Intn(2))
	}
	rnd.Read(rec)
	if e, f := j.Append(rec), want.append(rec); e != f {
		t.Fatalf("Append of %d bytes: %d; want %d", len(rec), e, f)
	}
}

// The same calls give the same answers.
func TestP9_SameCallsSameAnswers(t *testing.T) {
	for _, play := range []string{"", "asbn", "nsabnab", "absnsabs"} {
		a, _, _ := history(t, play)
		b, _, _ := history(t, play)
		if a.Stat() != b.Stat() || !sameDisk(a.Disk(), b.Disk()) {
			t.Errorf("%s: %+v, %+v", play, a.Stat(), b.Stat())
		}
		x, _ := a.Crash(9)
		y, _ := b.Crash(9)
		if !sameDisk(x, y) {
			t.Errorf("%s: %v, %v", play, x, y)
		}
	}
}
