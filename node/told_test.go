package node_test

import (
	"testing"

	"shard/api"
	"shard/node"
)

// What a node tells at each step of its life, in figures of their own.
func TestP11_14Told(t *testing.T) {
	c := config()
	n := newNode(t, c, 0)
	first := newState(c, 0)
	disk := n.Disk()
	is := func(what string, state, durable api.HostState, info api.NodeInfo, d api.Disk) {
		t.Helper()
		for range 3 {
			if got, want := shown(tell(n)), shown(told{d, state, durable, info}); got != want {
				t.Errorf("%s: %s; want %s", what, brief(got), brief(want))
			}
		}
	}
	size := len(disk.Slots[1])
	info := api.NodeInfo{Up: true, Epoch: 1, Journal: api.JournalStat{Gen: 2, Slot: 1, Bytes: size}}
	is("new", first, first, info, disk)
	one := first
	one.Pairs, one.Free, one.Sessions = []api.Pair{pair(5, "v")}, 3, []api.Session{{Client: 16, Seq: 1, Status: api.StOK}}
	give(t, n, 16, set(1, 5, "v"), api.OK)
	record := 12 + len(recordOf(16, set(1, 5, "v")))
	info.Held = 1
	info.Journal = api.JournalStat{Gen: 2, Slot: 1, Records: 1, Bytes: size + record, Waiting: 1, Unsynced: record}
	is("a Set", one, first, info, disk)
	isErr(t, n.Take(200, partsOf(get(1, 1), 64)[0]), api.ErrFrom)
	isErr(t, n.Take(200, partsOf(set(1, 1, long(64)), 64)[0]), api.OK)
	info.Partial = 1
	is("a part", one, first, info, disk)
	isSync(t, n, 1)
	disk.Slots[1] = slotOf(2, stateOf(1, first), recordOf(16, set(1, 5, "v")))
	info.Held, info.Journal.Waiting, info.Journal.Unsynced = 0, 0, 0
	is("a Sync", one, one, info, disk)
	two := one
	two.Pairs, two.Free, two.Sessions = nil, 4, []api.Session{{Client: 16, Seq: 2, Status: api.StOK}}
	give(t, n, 16, del(2, 5), api.OK)
	record = 12 + len(recordOf(16, del(2, 5)))
	info.Held = 1
	info.Journal = api.JournalStat{Gen: 2, Slot: 1, Records: 2, Bytes: len(disk.Slots[1]) + record, Waiting: 1, Unsynced: record}
	is("a Delete", two, one, info, disk)
	isErr(t, n.Compact(), api.OK)
	size = 24 + len(stateOf(1, two))
	disk.Slots[0], disk.Slots[1] = nil, slotOf(2, stateOf(1, first), recordOf(16, set(1, 5, "v")), recordOf(16, del(2, 5)))
	info.Journal = api.JournalStat{Gen: 3, Slot: 0, Bytes: size, Unsynced: size}
	is("a Compact", two, two, info, disk)
	isErr(t, n.Crash(size-1), api.OK)
	disk.Slots[0] = slotOf(3, stateOf(1, two))[:size-1]
	is("a crash", two, two, api.NodeInfo{Epoch: 1}, disk)
	isErr(t, n.Restart(), api.OK)
	disk.Slots[0] = slotOf(3, stateOf(2, two))
	is("a restart", two, two, api.NodeInfo{Up: true, Epoch: 2, Journal: api.JournalStat{Gen: 3, Slot: 0, Bytes: size}}, disk)
}

// Durable is what a Crash(0) leaves, at every step, and asking for it changes nothing.
func TestP11_14Durable(t *testing.T) {
	c := wide()
	c.Group, c.Keep = 3, 4
	for _, play := range plays("abhsc", 4) {
		asked, unasked := newNode(t, c, 0), newNode(t, c, 0)
		a, b := &twin{t, asked, docStart(c, 0)}, docStart(c, 0)
		a.play(play)
		// The same calls without a question in between.
		quiet(t, unasked, b, play)
		durable := shown(asked.Durable())
		if shown(tell(asked)) != shown(tell(unasked)) {
			t.Fatalf("%q: to ask has changed something", play)
		}
		isErr(t, unasked.Crash(0), api.OK)
		if got := shown(unasked.State()); got != durable || shown(unasked.Durable()) != durable {
			t.Fatalf("%q: Durable %s; behind a crash %s", play, durable, got)
		}
	}
}

// quiet plays as a twin does, but asks the node nothing.
func quiet(t *testing.T, n *node.Node, d *docNode, play string) {
	t.Helper()
	for _, c := range play {
		seq := uint64(len(d.past)) + 1
		from, m := api.Addr(16), api.Message{}
		switch c {
		case 'a':
			m = set(seq, 5, "v")
		case 'b':
			m = set(seq, seq, long(64))
		case 'h':
			from, m = api.Admin, shard(10*seq, 10*seq+5, 1, 0, 0)
		case 's':
			n.Sync()
			d.callSync()
			continue
		case 'c':
			n.Compact()
			d.compact()
			continue
		}
		for _, b := range partsOf(m, 256) {
			isErr(t, n.Take(from, b), d.take(from, b))
		}
	}
}

func TestP11_14Nil(t *testing.T) {
	var none *node.Node
	if got := tell(none); shown(got) != shown(told{}) || len(none.Out()) != 0 {
		t.Errorf("%s", brief(got))
	}
}
