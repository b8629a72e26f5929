package node_test

import (
	"slices"
	"testing"

	"shard/api"
	"shard/frag"
	"shard/node"
)

// The second example of the chapter.
func TestP11_4HeldExample(t *testing.T) {
	n := newNode(t, config(), 0)
	give(t, n, 16, set(1, 5, "v"), api.OK)
	if len(n.Out()) != 0 || n.Info().Held != 1 || n.Info().Journal.Waiting != 1 {
		t.Errorf("%+v", n.Info())
	}
	isPairs(t, n.Durable())
	isPairs(t, n.State(), 5)
	give(t, n, 16, get(2, 5), api.OK)
	if n.Info().Held != 2 {
		t.Errorf("%+v", n.Info())
	}
	isSync(t, n, 1)
	isOut(t, n, letter{0, 16, 1 << 40, reply(set(1, 5, ""), api.StOK, "")}, letter{0, 16, 1<<40 + 1, reply(get(2, 5), api.StOK, "v")})
	isPairs(t, n.Durable(), 5)
}

// The fifth example of the chapter.
func TestP11_4StrangersExample(t *testing.T) {
	w := newTwin(t, config(), 0)
	isErr(t, w.give(16, data(1, delegation(0, 5))), api.ErrFrom)
	isErr(t, w.give(200, set(1, 5, "v")), api.ErrFrom)
	isErr(t, w.take(16, []byte{1, 2, 3}), api.ErrFrag)
	if w.n.Info().Held != 0 || len(w.out()) != 0 {
		t.Errorf("%+v", w.n.Info())
	}
}

// Each error of a Take, of a node that waits for a sync and holds something back: all is as it was.
func TestP11_4Errors(t *testing.T) {
	c := wide()
	w := newTwin(t, c, 0)
	w.give(16, set(5, 5, "v"))
	w.take(17, partsOf(set(1, 6, long(64)), 64)[0])
	one := func(m api.Message) []byte { return partsOf(m, 1024)[0] }
	fine := one(set(6, 6, "w"))
	turned := func(b []byte, at int) []byte {
		b = slices.Clone(b)
		b[at] ^= 1
		return b
	}
	for i, row := range []struct {
		from api.Addr
		b    []byte
		want api.Errno
	}{
		// Those of the Joiner.
		{16, nil, api.ErrFrag}, {16, []byte{}, api.ErrFrag}, {16, fine[:18], api.ErrFrag}, {16, make([]byte, 1025), api.ErrFrag}, {16, turned(fine, 0), api.ErrFrag}, {16, turned(fine, 1), api.ErrFrag},
		{16, turned(fine, 20), api.ErrFragSum}, {api.NoOne, fine, api.ErrFragFrom}, {api.NoOne, nil, api.ErrFragFrom},
		// Those of the packet.
		{16, split([]byte("no packet at all"), 64)[0], api.ErrMagic}, {16, split([]byte{83, 1, 1}, 64)[0], api.ErrShape}, {16, split(append(packetOf(get(1, 1)), 0), 64)[0], api.ErrSum},
		{16, split(turned(packetOf(get(1, 1)), 1), 64)[0], api.ErrVersion}, {16, split(turned(packetOf(get(1, 1)), 2), 64)[0], api.ErrSum},
		{33, split([]byte("no packet at all"), 64)[0], api.ErrMagic},
		// Those of the core.
		{0, fine, api.ErrFrom}, {1, fine, api.ErrFrom}, {19, fine, api.ErrFrom}, {api.Admin, fine, api.ErrFrom}, {33, fine, api.ErrFrom}, {254, fine, api.ErrFrom},
		{0, one(ack(0, 0)), api.ErrFrom}, {3, one(ack(0, 0)), api.ErrFrom}, {1, one(ack(1, 0)), api.ErrXonceAck}, {1, one(ack(0, 1)), api.ErrXonceAck},
		{1, one(data(3, delegation(1, 2))), api.ErrXonceFar}, {1, one(data(1, packetOf(get(1, 1)))), api.ErrPayload}, {1, one(data(1, []byte{1})), api.ErrPayload},
		{16, one(shard(1, 2, 1, 0, 0)), api.ErrFrom}, {16, one(reply(get(1, 1), api.StOK, "")), api.ErrFrom}, {1, one(reply(get(1, 1), api.StOK, "")), api.ErrFrom},
	} {
		before := shown(tell(w.n))
		if e := w.take(row.from, row.b); e != row.want {
			t.Errorf("row %d: %d; want %d", i, e, row.want)
		}
		if shown(tell(w.n)) != before || len(w.out()) != 0 {
			t.Errorf("row %d: something has changed", i)
		}
	}
	w.sync()
	if len(w.out()) != 1 {
		t.Errorf("what was held back is gone")
	}
}

// An error that only the whole packet shows: the Joiner has lost its parts, nothing else has changed.
func TestP11_4ErrorsOfWholePackets(t *testing.T) {
	for i, row := range []struct {
		from   api.Addr
		packet []byte
		want   api.Errno
	}{
		{16, make([]byte, 200), api.ErrMagic},
		{17, packetOf(set(1, 5, long(64))), api.ErrFrom},
		{1, packetOf(data(3, delegation(1, 99, pair(5, long(64))))), api.ErrXonceFar},
		{1, packetOf(data(1, make([]byte, 100))), api.ErrPayload},
	} {
		w := newTwin(t, config(), 0)
		before := shown(tell(w.n))
		parts := split(row.packet, 64)
		for k, b := range parts {
			e := w.take(row.from, b)
			if last := k == len(parts)-1; !last && (e != api.OK || w.n.Info().Partial != 1) || last && e != row.want {
				t.Errorf("row %d, part %d: %d, %+v", i, k, e, w.n.Info())
			}
		}
		if shown(tell(w.n)) != before || len(w.out()) != 0 {
			t.Errorf("row %d: something has changed", i)
		}
	}
}

// A fragment that clashes with one that is there.
func TestP11_4Clash(t *testing.T) {
	w := newTwin(t, config(), 0)
	one, two := partsOf(set(1, 5, long(64)), 64), partsOf(set(1, 6, long(64)), 64)
	b, e := frag.Split(packetOf(set(1, 6, long(64))), lastId-1, 64)
	if e != api.OK || len(two) != len(b) {
		t.Fatal(e)
	}
	isErr(t, w.take(16, one[0]), api.OK)
	isErr(t, w.take(16, b[0]), api.ErrClash)
	isErr(t, w.take(16, one[0]), api.OK)
	isErr(t, w.take(16, one[1]), api.OK)
	isPairs(t, w.n.State(), 5)
}

// Which messages are written down: those that change the state, whatever is answered.
func TestP11_4Records(t *testing.T) {
	c := wide()
	w := newTwin(t, c, 0)
	count := 0
	for i, row := range []struct {
		from    api.Addr
		m       api.Message
		changes bool
		sends   int
	}{
		{16, get(1, 5), false, 1}, {16, set(1, 5, "v"), true, 1}, {16, set(1, 5, "v"), false, 1}, {16, scan(2, 0, 9, 3), false, 1}, {16, del(2, 9), true, 1}, {16, get(1, 5), false, 0}, {16, set(1, 5, "v"), false, 0},
		{api.Admin, shard(0, 9, 1, 0, 0), true, 2}, {api.Admin, shard(0, 9, 1, 0, 0), false, 1}, {16, get(3, 5), false, 1}, {16, set(3, 5, "v"), false, 1},
		{1, ack(0, 0), false, 0}, {1, ack(1, 0), true, 0}, {1, ack(1, 0), false, 0}, {1, ack(0, 0), false, 0},
		{2, data(2, delegation(20, 29)), true, 1}, {2, data(2, delegation(20, 29)), false, 1}, {2, data(1, delegation(30, 39)), true, 1}, {2, data(1, delegation(30, 39)), false, 1},
		{1, data(1, delegation(5, 5, pair(5, "back"))), true, 1},
	} {
		waiting, before := w.n.Info().Journal.Waiting, w.d.count
		isErr(t, w.give(row.from, row.m), api.OK)
		if did := w.n.Info().Journal.Waiting > waiting; did != row.changes || int(w.d.count-before) != row.sends {
			t.Errorf("row %d: %v, %d sent", i, did, w.d.count-before)
		}
		if row.changes {
			count++
		}
	}
	w.sync()
	if j := w.n.Info().Journal; j.Records != count || j.Waiting != 0 {
		t.Errorf("%+v; want %d records", j, count)
	}
	w.out()
	w.crash(0)
	w.restart()
}

// A record has the message's packet, however many fragments brought it and in whichever order.
func TestP11_4Fragments(t *testing.T) {
	m := set(1, 5, long(64))
	for _, order := range [][]int{{0, 1}, {1, 0}, {0, 0, 1}, {1, 1, 1, 0}} {
		w := newTwin(t, config(), 0)
		parts := partsOf(m, 64)
		if len(parts) != 2 {
			t.Fatalf("%d fragments", len(parts))
		}
		for i, k := range order {
			isErr(t, w.take(16, parts[k]), api.OK)
			whole := i == len(order)-1
			if info := w.n.Info(); info.Held != 0 && !whole || (info.Partial == 0) != whole || (info.Journal.Waiting == 1) != whole {
				t.Errorf("%v, fragment %d: %+v", order, i, info)
			}
		}
		w.sync()
		_, _, recs, _ := docGeneration(w.n.Disk().Slots[1])
		if want := recordOf(16, m); len(recs) != 1 || string(recs[0]) != string(want) {
			t.Errorf("%v: the records %q; want %q", order, recs, want)
		}
	}
}

// The Joiner keeps so many packets of one source, and each for so many ticks; other sources' are apart.
func TestP11_4Joiner(t *testing.T) {
	w := newTwin(t, config(), 0)
	var first [][]byte
	for i := range joinSlots + 1 {
		parts := partsOf(set(uint64(i+1), 5, long(64)), 64)
		first = append(first, parts[1])
		isErr(t, w.take(16, parts[0]), api.OK)
		isErr(t, w.take(200, parts[0]), api.OK)
		if got := w.n.Info().Partial; got != 2*min(i+1, joinSlots) {
			t.Errorf("%d packets: %d", i+1, got)
		}
	}
	isErr(t, w.take(16, first[joinSlots]), api.OK)
	isPairs(t, w.n.State(), 5)
	isErr(t, w.take(200, first[joinSlots]), api.ErrFrom)
	if got := w.n.Info().Partial; got != 2*joinSlots-2 {
		t.Errorf("%d", got)
	}
	// Its other part begins it anew.
	isErr(t, w.take(16, first[0]), api.OK)
	if got := w.n.Info().Partial; got != 2*joinSlots-1 {
		t.Errorf("the first one was not pushed out: %d", got)
	}
}

func TestP11_5TickAges(t *testing.T) {
	w := newTwin(t, config(), 0)
	parts := partsOf(set(1, 5, long(64)), 64)
	w.take(16, parts[0])
	for i := range joinAge - 1 {
		w.tick()
		if w.n.Info().Partial != 1 {
			t.Fatalf("gone after %d ticks", i+1)
		}
	}
	w.take(16, parts[0])
	w.tick()
	if w.n.Info().Partial != 0 {
		t.Errorf("there after %d ticks", joinAge)
	}
	isErr(t, w.take(16, parts[1]), api.OK)
	isPairs(t, w.n.State())
}

// A tick sends what is not acknowledged once more; while something waits for a sync, it waits too.
func TestP11_5TickSends(t *testing.T) {
	c := wide()
	w := newTwin(t, c, 0)
	w.tick()
	if len(w.out()) != 0 {
		t.Errorf("a new node sends at a tick")
	}
	w.give(api.Admin, shard(0, 9, 1, 0, 0))
	w.give(api.Admin, shard(20, 29, 2, 0, 0))
	w.tick()
	if len(w.out()) != 0 || w.n.Info().Held != 6 {
		t.Errorf("%+v", w.n.Info())
	}
	w.sync()
	if got := letters(t, w.out()); len(got) != 6 || got[4].m.Kind != api.KData || got[4].to != 1 || got[5].to != 2 {
		t.Errorf("%s", brief(got))
	}
	w.tick()
	if got := letters(t, w.out()); len(got) != 2 || got[0].to != 1 || got[1].to != 2 || got[1].id != 1<<40+7 {
		t.Errorf("%s", brief(got))
	}
	w.give(1, ack(1, 0))
	w.tick()
	if got := w.out(); len(got) != 0 || w.n.Info().Held != 1 {
		t.Errorf("%+v", w.n.Info())
	}
}

// The numbers of packets, and their fragments, at each MTU.
func TestP11_6Fragments(t *testing.T) {
	for _, mtu := range []int{64, 65, 100, 256, 1023, 1024} {
		c := wide()
		c.MTU, c.Group = mtu, 1
		w := newTwin(t, c, 1)
		for i := range 32 {
			w.give(2, data(uint64(i+1), delegation(uint64(i), uint64(i), pair(uint64(i), long(64)))))
		}
		w.give(16, scan(1, 0, 31, 16))
		w.give(16, get(1, 3))
		list := w.out()
		for _, d := range list {
			if len(d.Data) > mtu || d.From != 1 {
				t.Errorf("MTU %d: %d bytes from %d", mtu, len(d.Data), d.From)
			}
		}
		got := letters(t, list)
		for i, l := range got {
			if l.id != 1<<40+uint64(i) {
				t.Errorf("MTU %d: packet %d has the number %d", mtu, i, l.id)
			}
		}
		if scanned := got[32].m; len(got) != 34 || len(scanned.Pairs) == 0 || got[32].to != 16 || got[0].to != 2 {
			t.Errorf("MTU %d: %s", mtu, brief(got))
		}
		if parts := split(packetOf(got[32].m), mtu); len(list) < len(parts)+33 {
			t.Errorf("MTU %d: %d datagrams", mtu, len(list))
		}
	}
}

// fillUp gives a node whose generations are used up, so that it never compacts, with so many bytes in its slot, of which one record is not synced; and the last request's number.
func fillUp(t *testing.T, bytes int) (*node.Node, uint64) {
	t.Helper()
	c := config()
	c.Group, c.Keep = 64, 1
	n := openNode(t, c, 0, diskOf(top-1, stateOf(0, newState(c, 0))))
	seq := uint64(1 << 56)
	for n.Info().Journal.Bytes < bytes-400 {
		seq++
		// A Cas that fails is a change too, and the longest request.
		give(t, n, 16, api.Message{Kind: api.KCas, Seq: seq, Key: 5, Has: true, Old: []byte(long(64)), Value: []byte(long(64))}, api.OK)
	}
	frame := 12 + len(recordOf(16, set(seq, 5, "")))
	for n.Info().Journal.Bytes < bytes {
		n.Sync()
		n.Out()
		seq++
		left := bytes - n.Info().Journal.Bytes
		size := left - frame
		if size > 64 {
			size = min(64, left-2*frame)
		}
		give(t, n, 16, set(seq, 5, long(size)), api.OK)
	}
	if size := n.Info().Journal.Bytes; size != bytes {
		t.Fatalf("%d bytes; want %d", size, bytes)
	}
	return n, seq
}

// ErrSlot, as soon as the greatest record might not fit: the datagram is not looked at. The node goes on otherwise.
func TestP11_4Slot(t *testing.T) {
	const most = mostSlot - 12 - mostRecord
	n, seq := fillUp(t, most+1)
	isSlotFull(t, n, seq)
	n, seq = fillUp(t, most)
	n.Sync()
	n.Out()
	for range 3 {
		give(t, n, 16, get(seq, 5), api.OK)
	}
	if len(n.Out()) != 3 {
		t.Errorf("a slot with room for just one record: no answers")
	}
	give(t, n, 16, set(seq+1, 5, ""), api.OK)
	isSlotFull(t, n, seq+1)
}

func isSlotFull(t *testing.T, n *node.Node, seq uint64) {
	t.Helper()
	before, state := n.Info(), shown(n.State())
	parts := partsOf(set(seq+1, 5, long(64)), 64)
	for _, b := range [][]byte{partsOf(set(seq+1, 6, "x"), 256)[0], partsOf(get(seq, 5), 256)[0], parts[0], nil, []byte("no fragment")} {
		for _, from := range []api.Addr{16, 200, api.NoOne} {
			if e := n.Take(from, b); e != api.ErrSlot {
				t.Errorf("a full slot: %d", e)
			}
		}
	}
	if n.Info() != before || shown(n.State()) != state {
		t.Errorf("a full slot: something has changed")
	}
	isErr(t, n.Compact(), api.ErrGen)
	isErr(t, n.Tick(), api.OK)
	if n.Info() != before {
		t.Errorf("a full slot: %+v", n.Info())
	}
	isSync(t, n, 1)
	if len(n.Out()) != 1 {
		t.Errorf("a full slot: the last answer is not released")
	}
	if shown(n.Durable()) != state {
		t.Errorf("a full slot: another state is durable")
	}
	isErr(t, n.Crash(0), api.OK)
	isErr(t, n.Restart(), api.ErrDisk)
	if n.Info() != (api.NodeInfo{Epoch: 1}) || shown(n.State()) != state {
		t.Errorf("a full slot, down: %+v", n.Info())
	}
}
