package node_test

import (
	"math"
	"testing"

	"shard/api"
)

// The fourth example of the chapter.
func TestP11_7GroupExample(t *testing.T) {
	n := newNode(t, config(), 0)
	give(t, n, 16, set(1, 5, "v"), api.OK)
	give(t, n, 16, set(2, 6, "w"), api.OK)
	isOut(t, n, letter{0, 16, 1 << 40, reply(set(1, 5, ""), api.StOK, "")}, letter{0, 16, 1<<40 + 1, reply(set(2, 6, ""), api.StOK, "")})
	isPairs(t, n.Durable(), 5, 6)
}

// Each Group, the least and the greatest too: so many records make the journal sync, one fewer does not.
func TestP11_7Group(t *testing.T) {
	for _, group := range []int{1, 2, 3, 7, 63, 64} {
		c := wide()
		c.Group, c.Keep = group, 1024
		w := newTwin(t, c, 0)
		for i := 1; i <= 2*group+1; i++ {
			w.give(16, set(uint64(i), 5, "v"))
			info := w.n.Info()
			if waits := i % group; info.Journal.Waiting != waits || info.Held != waits || info.Journal.Records != i || len(w.n.Out()) != len(w.d.out()) {
				t.Errorf("Group %d, request %d: %+v", group, i, info)
			}
		}
	}
}

// What is sent while something waits is held back, whatever it is, and goes in its order.
func TestP11_7AllIsHeldBack(t *testing.T) {
	c := wide()
	w := newTwin(t, c, 0)
	w.give(api.Admin, shard(100, 199, 1, 0, 0))
	w.sync()
	if len(w.out()) != 2 {
		t.Fatal("the Shard's messages are not there")
	}
	w.give(16, set(1, 5, "v"))
	w.give(17, get(1, 5))
	w.give(17, scan(1, 0, 9, 3))
	w.give(17, get(1, 150))
	w.give(16, set(1, 5, "v"))
	w.tick()
	w.give(2, data(1, delegation(300, 309)))
	w.give(2, data(1, delegation(300, 309)))
	w.give(api.Admin, shard(0, 1, 9, 0, 0))
	if len(w.out()) != 0 || w.n.Info().Held != 9 {
		t.Errorf("%+v", w.n.Info())
	}
	w.sync()
	want := []api.Kind{api.KReply, api.KReply, api.KReply, api.KRedirect, api.KReply, api.KData, api.KAck, api.KAck, api.KDone}
	got := letters(t, w.out())
	if len(got) != len(want) {
		t.Fatalf("%s", brief(got))
	}
	for i, l := range got {
		if l.m.Kind != want[i] || l.id != 1<<40+2+uint64(i) {
			t.Errorf("letter %d: %s", i, brief(l))
		}
	}
}

// While nothing waits, what does not change anything leaves at once.
func TestP11_7NothingWaits(t *testing.T) {
	w := newTwin(t, config(), 1)
	w.give(16, get(1, 5))
	w.give(16, set(1, 5, "v"))
	if w.n.Info().Held != 0 || len(w.out()) != 2 {
		t.Errorf("%+v", w.n.Info())
	}
}

// At each Keep a new generation is begun by the sync behind which so many records stand.
func TestP11_7Keep(t *testing.T) {
	for _, row := range []struct{ group, keep int }{{1, 1}, {1, 2}, {1, 3}, {2, 1}, {2, 2}, {2, 3}, {3, 2}, {3, 7}, {64, 1}, {64, 65}, {5, 64}} {
		c := wide()
		c.Group, c.Keep = row.group, row.keep
		w := newTwin(t, c, 0)
		gen, behind := uint64(2), 0
		for i := 1; i <= 2*row.group*row.keep && i < 200; i++ {
			w.give(16, set(uint64(i), uint64(i), "v"))
			behind++
			if synced := i%row.group == 0; synced && behind >= row.keep {
				gen, behind = gen+1, 0
			}
			if j := w.n.Info().Journal; j.Gen != gen || j.Records != behind || behind == 0 && (j.Unsynced != 0 || w.n.Info().Held != 0) {
				t.Errorf("Group %d, Keep %d, request %d: %+v", row.group, row.keep, i, j)
			}
		}
		if gen == 2 {
			t.Errorf("Group %d, Keep %d: nothing was compacted", row.group, row.keep)
		}
		w.out()
	}
}

// A Sync compacts too, if enough records stand there; with one fewer it does not.
func TestP11_7SyncCompacts(t *testing.T) {
	for count := range 6 {
		c := wide()
		c.Keep = 3
		w := newTwin(t, c, 0)
		for i := range count {
			w.give(16, set(uint64(i+1), 5, "v"))
		}
		if got, e := w.n.Sync(); got != count || e != api.OK {
			t.Errorf("Sync: %d, %d; want %d", got, e, count)
		}
		w.d.callSync()
		isTold(t, w.n, w.d)
		wantGen, wantRecords := uint64(2), count
		if count >= 3 {
			wantGen, wantRecords = 3, 0
		}
		if j := w.n.Info().Journal; j.Gen != wantGen || j.Records != wantRecords || j.Unsynced != 0 {
			t.Errorf("%d records: %+v", count, j)
		}
		if len(w.out()) != count {
			t.Errorf("%d records: their answers are not released", count)
		}
	}
}

// Ticks, and what changes nothing, begin no generation and sync nothing.
func TestP11_7NoSync(t *testing.T) {
	c := wide()
	c.Keep = 1
	w := newTwin(t, c, 0)
	w.give(16, set(1, 5, "v"))
	for i := range 70 {
		w.tick()
		w.give(16, get(2, 5))
		w.take(16, partsOf(set(uint64(i+2), 5, long(64)), 64)[0])
	}
	if j := w.n.Info().Journal; j.Gen != 2 || j.Waiting != 1 || w.n.Info().Held != 71 {
		t.Errorf("%+v", w.n.Info())
	}
	w.sync()
	w.out()
}

// A node whose generations are used up goes on as it is.
func TestP11_7KeepWithoutGenerations(t *testing.T) {
	c := config()
	c.Group, c.Keep = 2, 2
	n := openNode(t, c, 0, diskOf(top-1, stateOf(0, newState(c, 0))))
	for i := range 9 {
		give(t, n, 16, set(uint64(i+1), 5, "v"), api.OK)
		j := n.Info().Journal
		if j.Gen != top || j.Slot != 0 || j.Records != i+1 || j.Waiting != (i+1)%2 {
			t.Errorf("request %d: %+v", i+1, j)
		}
		if got := len(n.Out()); got != i%2*2 {
			t.Errorf("request %d: %d answers", i+1, got)
		}
	}
	isSync(t, n, 1)
	if j := n.Info().Journal; j.Records != 9 || j.Unsynced != 0 || n.Info().Held != 0 || len(n.Out()) != 1 {
		t.Errorf("%+v", n.Info())
	}
}

func TestP11_8Sync(t *testing.T) {
	w := newTwin(t, wide(), 0)
	for count := range 4 {
		for range count {
			w.give(16, set(w.d.count+1, 5, "v"))
		}
		w.give(16, get(top, 5))
		if got, e := w.n.Sync(); got != count || e != api.OK {
			t.Errorf("Sync: %d, %d; want %d", got, e, count)
		}
		w.d.callSync()
		isTold(t, w.n, w.d)
		isSync(t, w.n, 0)
		w.d.callSync()
		isTold(t, w.n, w.d)
	}
	w.give(16, set(100, 5, "v"))
	w.compact()
	isSync(t, w.n, 0)
	w.d.callSync()
	isTold(t, w.n, w.d)
}

// The sixth example of the chapter.
func TestP11_9CompactExample(t *testing.T) {
	n := newNode(t, config(), 0)
	give(t, n, 16, set(1, 5, "v"), api.OK)
	n.Sync()
	n.Out()
	state := n.State()
	isErr(t, n.Compact(), api.OK)
	give(t, n, 16, get(2, 5), api.OK)
	size := 24 + len(stateOf(1, state))
	isInfo(t, n, api.NodeInfo{Up: true, Epoch: 1, Held: 1, Journal: api.JournalStat{Gen: 3, Slot: 0, Bytes: size, Unsynced: size}})
	if len(n.Out()) != 0 {
		t.Errorf("something has left")
	}
	isErr(t, n.Crash(10), api.OK)
	isErr(t, n.Restart(), api.OK)
	if shown(n.State()) != shown(state) || n.Info().Epoch != 2 || n.Info().Journal.Gen != 3 {
		t.Errorf("%+v", n.Info())
	}
}

func TestP11_9Compact(t *testing.T) {
	w := newTwin(t, config(), 0)
	for i := range uint64(6) {
		w.give(16, set(2*i+1, i%4, "v"))
		w.compact()
		if j := w.n.Info().Journal; j.Gen != 3+i || j.Records != 0 || j.Waiting != 0 || j.Unsynced != j.Bytes {
			t.Errorf("%+v", j)
		}
		if shown(w.n.Durable()) != shown(w.n.State()) {
			t.Errorf("the old generation is not synced")
		}
		w.give(16, get(2*i+2, i%4))
		w.tick()
		if len(w.out()) != 0 || w.n.Info().Held == 0 {
			t.Errorf("%+v", w.n.Info())
		}
	}
	w.sync()
	if len(w.out()) != 12 || w.n.Info().Held != 0 {
		t.Errorf("%+v", w.n.Info())
	}
}

// What was released stays so behind a Compact; what comes later waits.
func TestP11_9Released(t *testing.T) {
	w := newTwin(t, config(), 0)
	w.give(16, get(1, 5))
	w.compact()
	w.give(16, get(2, 5))
	if got := letters(t, w.out()); len(got) != 1 || got[0].m.Seq != 1 {
		t.Errorf("%s", brief(got))
	}
	w.sync()
	if got := letters(t, w.out()); len(got) != 1 || got[0].m.Seq != 2 {
		t.Errorf("%s", brief(got))
	}
}

// Group records behind a new generation sync it.
func TestP11_9SyncedByGroup(t *testing.T) {
	w := newTwin(t, config(), 0)
	w.compact()
	w.give(16, set(1, 5, "v"))
	if j := w.n.Info().Journal; j.Waiting != 1 || j.Unsynced != j.Bytes {
		t.Errorf("%+v", j)
	}
	isPairs(t, w.n.Durable())
	w.give(16, set(2, 6, "v"))
	if j := w.n.Info().Journal; j.Waiting != 0 || j.Unsynced != 0 || j.Records != 2 {
		t.Errorf("%+v", j)
	}
	if len(w.out()) != 2 {
		t.Errorf("%+v", w.n.Info())
	}
}

func TestP11_9Refused(t *testing.T) {
	c := config()
	n := openNode(t, c, 0, diskOf(top-1, stateOf(0, newState(c, 0))))
	give(t, n, 16, set(1, 5, "v"), api.OK)
	before := shown(tell(n))
	isErr(t, n.Compact(), api.ErrGen)
	if shown(tell(n)) != before || len(n.Out()) != 0 {
		t.Errorf("a refused Compact has changed something")
	}
	isSync(t, n, 1)
}

func TestP11_10Out(t *testing.T) {
	w := newTwin(t, config(), 0)
	if len(w.out()) != 0 {
		t.Errorf("a new node sends")
	}
	for i := range uint64(5) {
		w.give(16, get(i+1, 5))
	}
	w.give(16, set(6, 5, "v"))
	w.give(16, get(7, 5))
	got := letters(t, w.out())
	for i, l := range got {
		if l.m.Seq != uint64(i+1) {
			t.Errorf("letter %d: %s", i, brief(l))
		}
	}
	if len(got) != 5 || len(w.out()) != 0 || w.n.Info().Held != 2 {
		t.Errorf("%d letters, %+v", len(got), w.n.Info())
	}
	w.sync()
	w.give(16, get(8, 5))
	if got := letters(t, w.out()); len(got) != 3 || got[0].m.Seq != 6 || got[2].m.Seq != 8 || got[2].id != 1<<40+7 {
		t.Errorf("%s", brief(got))
	}
	w.give(16, get(9, 5))
	w.crash(math.MaxInt)
	if len(w.out()) != 0 {
		t.Errorf("a node that is down sends")
	}
	w.restart()
	if len(w.out()) != 0 {
		t.Errorf("what was released ahead of the crash is there behind it")
	}
}
