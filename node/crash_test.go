package node_test

import (
	"math"
	"math/rand"
	"testing"

	"shard/api"
	"shard/node"
)

// The third example of the chapter.
func TestP11_11CrashExample(t *testing.T) {
	n := newNode(t, config(), 0)
	give(t, n, 16, set(1, 5, "v"), api.OK)
	give(t, n, 16, get(2, 5), api.OK)
	isErr(t, n.Crash(0), api.OK)
	isErr(t, n.Restart(), api.OK)
	isPairs(t, n.State())
	if n.Info().Epoch != 2 || len(n.Out()) != 0 {
		t.Errorf("%+v", n.Info())
	}
	give(t, n, 16, set(1, 5, "v"), api.OK)
	isSync(t, n, 1)
	isOut(t, n, letter{0, 16, 1 << 41, reply(set(1, 5, ""), api.StOK, "")})
	isPairs(t, n.State(), 5)
}

func TestP11_11Refused(t *testing.T) {
	w := newTwin(t, config(), 0)
	w.give(16, set(1, 5, "v"))
	for _, keep := range []int{-1, -2, math.MinInt} {
		isErr(t, w.n.Crash(keep), api.ErrArg)
		isTold(t, w.n, w.d)
	}
	isErr(t, w.n.Restart(), api.ErrUp)
	isTold(t, w.n, w.d)
	w.crash(0)
	_, e := w.n.Sync()
	for i, e := range []api.Errno{w.n.Take(16, partsOf(get(1, 1), 64)[0]), w.n.Take(api.NoOne, nil), w.n.Tick(), e, w.n.Compact(), w.n.Crash(0), w.n.Crash(-1), w.n.Crash(math.MaxInt)} {
		if e != api.ErrDown {
			t.Errorf("call %d: %d", i, e)
		}
		isTold(t, w.n, w.d)
	}
	if len(w.n.Out()) != 0 {
		t.Errorf("a node that is down sends")
	}
	w.restart()
	isErr(t, w.n.Restart(), api.ErrUp)
}

// The Joiner's parts and the outbox, released or not, are gone behind a crash; numbers begin anew with the epoch.
func TestP11_11AllIsGone(t *testing.T) {
	w := newTwin(t, config(), 0)
	parts := partsOf(set(9, 6, long(64)), 64)
	w.take(16, parts[0])
	w.give(16, get(1, 5))
	w.give(16, set(1, 5, "v"))
	if info := w.n.Info(); info.Partial != 1 || info.Held != 1 {
		t.Fatalf("%+v", info)
	}
	w.crash(math.MaxInt)
	isInfo(t, w.n, api.NodeInfo{Epoch: 1})
	w.restart()
	if info := w.n.Info(); info.Partial != 0 || info.Held != 0 || info.Epoch != 2 || len(w.out()) != 0 {
		t.Errorf("%+v", info)
	}
	isPairs(t, w.n.State(), 5)
	isErr(t, w.take(16, parts[1]), api.OK)
	isPairs(t, w.n.State(), 5)
	w.give(16, get(2, 5))
	if got := letters(t, w.out()); len(got) != 1 || got[0].id != 2<<40 {
		t.Errorf("%s", brief(got))
	}
}

// The epochs run out: the node stays down, with all that it holds.
func TestP11_11EpochsRunOut(t *testing.T) {
	c := config()
	n := openNode(t, c, 0, diskOf(1, stateOf(mostEpoch-2, newState(c, 0))))
	isErr(t, n.Crash(0), api.OK)
	isErr(t, n.Restart(), api.OK)
	give(t, n, 16, set(1, 5, "v"), api.OK)
	isSync(t, n, 1)
	isOut(t, n, letter{0, 16, mostEpoch << 40, reply(set(1, 5, ""), api.StOK, "")})
	isErr(t, n.Crash(0), api.OK)
	before := shown(tell(n))
	for range 2 {
		isErr(t, n.Restart(), api.ErrEpoch)
		isInfo(t, n, api.NodeInfo{Epoch: mostEpoch})
		isErr(t, n.Tick(), api.ErrDown)
		if shown(tell(n)) != before {
			t.Errorf("a refused Restart has changed something")
		}
	}
	isPairs(t, n.State(), 5)
	o, e := node.Open(c, 0, n.Disk())
	isNoNode(t, "the last epoch", o, e, api.ErrEpoch)
}

// The generations run out.
func TestP11_11GenerationsRunOut(t *testing.T) {
	c := config()
	n := openNode(t, c, 0, diskOf(top-1, stateOf(7, newState(c, 0))))
	give(t, n, 16, set(1, 5, "v"), api.OK)
	isErr(t, n.Crash(5), api.OK)
	before := shown(tell(n))
	isErr(t, n.Restart(), api.ErrDisk)
	isInfo(t, n, api.NodeInfo{Epoch: 8})
	isPairs(t, n.State())
	if shown(tell(n)) != before {
		t.Errorf("a refused Restart has changed something")
	}
}

// plays are all rows of some calls, up to a length. a, b: Sets; g: a Get; h: a Shard; d: a Data; s, c, t, o: Sync, Compact, Tick, Out.
func plays(calls string, longest int) []string {
	all := []string{""}
	for i := 0; i < len(all); i++ {
		if play := all[i]; len(play) < longest {
			for _, c := range calls {
				all = append(all, play+string(c))
			}
		}
	}
	return all
}

func (w *twin) play(letters string) {
	w.t.Helper()
	for _, c := range letters {
		seq := uint64(len(w.d.past)) + 1
		switch c {
		case 'a':
			w.give(16, set(seq, 5, "v"))
		case 'b':
			w.give(16, set(seq, seq, long(64)))
		case 'g':
			w.give(16, get(seq, 5))
		case 'h':
			w.give(api.Admin, shard(10*seq, 10*seq+5, 1, 0, 0))
		case 'd':
			w.give(1, data(seq, delegation(10*seq, 10*seq+5)))
		case 's':
			w.sync()
		case 'c':
			w.compact()
		case 't':
			w.tick()
		case 'o':
			w.out()
		}
	}
}

// All rows of calls up to a length, each with every keep: behind the crash the state is one of those that there were, and none that was told outside is undone.
func TestP11_12AllCrashes(t *testing.T) {
	c := config()
	c.Group, c.Keep = 3, 4
	crashes := 0
	for _, play := range plays("agsco", 4) {
		w := newTwin(t, c, 0)
		w.play(play)
		unsynced := w.n.Info().Journal.Unsynced
		for _, keep := range keeps(unsynced, len(play) < 4) {
			w := newTwin(t, c, 0)
			w.play(play + "o")
			w.crash(keep)
			w.restart()
			crashes++
		}
	}
	if crashes < 1000 {
		t.Errorf("only %d crashes", crashes)
	}
}

// keeps gives all keeps, or those near the ends of what waits.
func keeps(unsynced int, all bool) []int {
	list := []int{0, unsynced, unsynced + 1, math.MaxInt}
	for keep := 1; keep < unsynced; keep++ {
		if all || keep < 3 || keep > unsynced-3 || keep%29 == 0 {
			list = append(list, keep)
		}
	}
	return list
}

// Crash behind crash, each behind some calls.
func TestP11_12CrashesInARow(t *testing.T) {
	c := config()
	for _, play := range []string{"a", "ac", "aca", "cab", "acs", "h", "hc", "abca", "asbc"} {
		for _, next := range []string{"", "a", "c", "ac"} {
			for keep := 0; keep < 200; keep += 7 {
				w := newTwin(t, c, 0)
				w.play(play + "o")
				w.crash(keep)
				w.restart()
				w.play(next + "o")
				w.crash(keep / 2)
				w.restart()
				w.play("asot")
				w.out()
			}
		}
	}
}

// No two packets have one number, whatever crashes there are.
func TestP11_13Numbers(t *testing.T) {
	r := rand.New(rand.NewSource(11))
	c := wide()
	c.Group, c.Keep, c.MTU = 3, 5, 64
	w := newTwin(t, c, 0)
	seen := map[uint64]bool{}
	heads := map[uint64]int{}
	for range 1500 {
		switch r.Intn(12) {
		case 0:
			w.crash(r.Intn(200))
			w.restart()
			if w.d.epoch%5 == 0 { // and on a disk that another node has left
				w.n = openNode(t, c, 0, w.n.Disk())
				w.d.crash(0)
				w.d.restart()
				isTold(t, w.n, w.d)
			}
		default:
			w.play(string("abghstc"[r.Intn(7)]))
		}
		for _, l := range letters(t, w.out()) {
			if seen[l.id] {
				t.Fatalf("two packets have the number %d", l.id)
			}
			seen[l.id] = true
			heads[l.id>>40]++
		}
	}
	if len(seen) < 300 || len(heads) < 20 {
		t.Errorf("only %d packets in %d epochs", len(seen), len(heads))
	}
}
