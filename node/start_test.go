package node_test

import (
	"encoding/binary"
	"fmt"
	"math"
	"slices"
	"testing"

	"shard/api"
	"shard/core"
	"shard/node"
)

// isNoNode wants a start to be refused.
func isNoNode(t *testing.T, what any, n *node.Node, e, want api.Errno) {
	t.Helper()
	if n != nil || e != want {
		t.Errorf("%v: %v, %d; want %d", what, n != nil, e, want)
	}
}

// The first example of the chapter.
func TestP11_3NewExample(t *testing.T) {
	n := newNode(t, config(), 0)
	isInfo(t, n, api.NodeInfo{Up: true, Epoch: 1, Journal: api.JournalStat{Gen: 2, Slot: 1, Bytes: 121}})
}

func TestP11_3New(t *testing.T) {
	for _, c := range []api.Config{config(), wide(), {Hosts: 16, Clients: 16, Pairs: 1024, Bounds: 256, Queue: 16, Window: 16, Group: 64, Keep: 1024, MTU: 1024, Net: 4096, Patience: 64, Tries: 64}, {Hosts: 1, Queue: 1, Window: 1, Group: 1, Keep: 1, MTU: 64, Net: 1, Patience: 1, Tries: 1}} {
		for self := range c.Hosts {
			n := newNode(t, c, api.Addr(self))
			first := newState(c, api.Addr(self))
			var d api.Disk
			d.Slots[0], d.Slots[1] = slotOf(1, stateOf(0, first)), slotOf(2, stateOf(1, first))
			want := told{d, first, first, api.NodeInfo{Up: true, Epoch: 1, Journal: api.JournalStat{Gen: 2, Slot: 1, Bytes: len(d.Slots[1])}}}
			if got := tell(n); shown(got) != shown(want) {
				t.Errorf("%+v, %d: %s; want %s", c, self, brief(got), brief(want))
			}
			if len(n.Out()) != 0 {
				t.Errorf("a new node sends")
			}
		}
	}
}

// badConfigs gives a configuration past each of its bounds.
func badConfigs() []api.Config {
	var all []api.Config
	for _, change := range []func(*api.Config){
		func(c *api.Config) { c.Hosts = 0 }, func(c *api.Config) { c.Hosts = 17 }, func(c *api.Config) { c.Clients = -1 }, func(c *api.Config) { c.Clients = 17 },
		func(c *api.Config) { c.Pairs = -1 }, func(c *api.Config) { c.Pairs = 1025 }, func(c *api.Config) { c.Bounds = -1 }, func(c *api.Config) { c.Bounds = 257 },
		func(c *api.Config) { c.Queue = 0 }, func(c *api.Config) { c.Queue = 17 }, func(c *api.Config) { c.Window = 0 }, func(c *api.Config) { c.Window = 3 },
		func(c *api.Config) { c.Group = 0 }, func(c *api.Config) { c.Group = 65 }, func(c *api.Config) { c.Keep = 0 }, func(c *api.Config) { c.Keep = 1025 },
		func(c *api.Config) { c.MTU = 63 }, func(c *api.Config) { c.MTU = 1025 }, func(c *api.Config) { c.Net = 0 }, func(c *api.Config) { c.Net = 4097 },
		func(c *api.Config) { c.Patience = 0 }, func(c *api.Config) { c.Patience = 65 }, func(c *api.Config) { c.Tries = 0 }, func(c *api.Config) { c.Tries = 65 },
		func(c *api.Config) { *c = api.Config{} }, func(c *api.Config) { c.Hosts, c.Keep = math.MinInt, math.MaxInt },
	} {
		c := config()
		change(&c)
		all = append(all, c)
	}
	return all
}

func TestP11_3Refused(t *testing.T) {
	fine := diskOf(1, stateOf(0, newState(config(), 0)))
	for _, c := range badConfigs() {
		n, e := node.New(c, 0)
		isNoNode(t, c, n, e, api.ErrConfig)
		for _, d := range []api.Disk{{}, fine} {
			n, e := node.Open(c, 0, d)
			isNoNode(t, c, n, e, api.ErrConfig)
		}
	}
	for _, self := range []api.Addr{2, 3, 15, 16, 32, 200, api.NoOne} {
		n, e := node.New(config(), self)
		isNoNode(t, self, n, e, api.ErrConfig)
		n, e = node.Open(config(), self, api.Disk{})
		isNoNode(t, self, n, e, api.ErrConfig)
	}
}

// Every epoch and generation at which a start may be, up to the last ones.
func TestP11_2StartsOn(t *testing.T) {
	c := config()
	s := newState(c, 1)
	s.Sessions = []api.Session{{Client: 20, Seq: 7, Status: api.StOK}}
	for _, gen := range []uint64{1, 2, 3, 4, 1000, 1 << 32, top - 2, top - 1, top} {
		for _, epoch := range []int{0, 1, 2, 255, 256, 65536, mostEpoch - 1, mostEpoch, mostEpoch + 1, math.MaxInt32, math.MaxUint32} {
			d := diskOf(gen, stateOf(epoch, s))
			want := api.OK
			switch {
			case epoch > mostEpoch:
				want = api.ErrDisk
			case epoch == mostEpoch:
				want = api.ErrEpoch
			case gen == top:
				want = api.ErrDisk
			}
			n, e := node.Open(c, 1, d)
			if want != api.OK {
				isNoNode(t, []any{gen, epoch}, n, e, want)
				continue
			}
			if e != api.OK {
				t.Errorf("generation %d, epoch %d: %d", gen, epoch, e)
				continue
			}
			d.Slots[gen%2] = slotOf(gen+1, stateOf(epoch+1, s))
			info := api.NodeInfo{Up: true, Epoch: epoch + 1, Journal: api.JournalStat{Gen: gen + 1, Slot: int(gen % 2), Bytes: len(d.Slots[gen%2])}}
			if got, want := tell(n), (told{d, s, s, info}); shown(got) != shown(want) {
				t.Errorf("generation %d, epoch %d: %s; want %s", gen, epoch, brief(got), brief(want))
			}
		}
	}
}

// A disk that holds no core is told ahead of its epoch.
func TestP11_2DiskAheadOfEpoch(t *testing.T) {
	c := config()
	n, e := node.Open(c, 0, diskOf(1, stateOf(mostEpoch, newState(c, 0)), recordOf(16, get(1, 1))))
	isNoNode(t, "a bad record and the last epoch", n, e, api.ErrDisk)
	n, e = node.Open(c, 0, diskOf(1, stateOf(mostEpoch, newState(c, 1))))
	isNoNode(t, "another's state and the last epoch", n, e, api.ErrDisk)
}

// full is a state with something of everything, for the configuration wide.
func full(self api.Addr) api.HostState {
	s := newState(wide(), self)
	other := (self + 1) % 3
	s.Table = []api.Segment{{Lo: 0, Hi: 9, Host: other}, {Lo: 10, Hi: 99, Host: self}, {Lo: 100, Hi: top, Host: other}}
	s.Pairs = []api.Pair{pair(10, "ten"), pair(50, ""), pair(99, long(64))}
	s.Sessions = []api.Session{{Client: 16, Seq: 3, Status: api.StOK}, {Client: 31, Seq: top, Status: api.StNoCredit}}
	s.Free, s.Spare = 7, 9
	s.End.Peers[other] = api.PeerState{Sent: 9, Acked: 6, Queue: [][]byte{delegation(1, 2), delegation(3, 4, pair(3, "three")), delegation(5, 5)}, Mask: 1, Delivered: 2, Early: []api.Frame{{Seq: 4, Payload: delegation(7, 8)}}}
	return s
}

func TestP11_1States(t *testing.T) {
	for self := range api.Addr(3) {
		n := openNode(t, wide(), self, diskOf(5, stateOf(8, full(self))))
		if got := n.State(); shown(got) != shown(full(self)) || n.Info().Epoch != 9 {
			t.Errorf("%s", brief(got))
		}
	}
}

// Bytes that are no node's state for the configuration and the host.
func TestP11_1NoStates(t *testing.T) {
	c := wide()
	good := stateOf(3, full(1))
	saved, _ := core.Save(full(1))
	changed := func(at int, x byte) []byte {
		b := slices.Clone(good)
		b[at] = x
		return b
	}
	less := c
	less.Hosts = 2
	shallow := c
	shallow.Queue, shallow.Window = 2, 1
	narrow := c
	narrow.Window = 1
	framed := func(length []byte, b []byte) []byte {
		return slices.Concat([]byte{78, 1, 0, 0, 0, 3}, length, b)
	}
	if len(saved) < 128 || len(saved) > 16383 {
		t.Fatalf("the state has %d bytes", len(saved))
	}
	size := binary.AppendUvarint(nil, uint64(len(saved)))
	if string(framed(size, saved)) != string(good) {
		t.Fatal("the bytes are not laid out as they ought to be")
	}
	spoilt := slices.Clone(saved)
	spoilt[len(spoilt)-1] ^= 1
	for i, row := range []struct {
		c    api.Config
		self api.Addr
		b    []byte
	}{
		{c, 1, nil}, {c, 1, good[:1]}, {c, 1, good[:2]}, {c, 1, good[:6]}, {c, 1, good[:len(good)-1]},
		{c, 1, append(slices.Clone(good), 0)},
		{c, 1, changed(0, 77)}, {c, 1, changed(0, 79)}, {c, 1, changed(0, 0)}, {c, 1, changed(0, 'n')}, {c, 1, changed(1, 0)}, {c, 1, changed(1, 2)},
		{c, 1, changed(2, 1)}, {c, 1, changed(2, 255)},
		{c, 1, framed(nil, saved)}, {c, 1, framed([]byte{size[0], size[1] | 128, 0}, saved)}, {c, 1, framed(binary.AppendUvarint(nil, uint64(len(saved)-1)), saved)}, {c, 1, framed(binary.AppendUvarint(nil, uint64(len(saved)+1)), saved)},
		{c, 1, framed(binary.AppendUvarint(nil, uint64(len(saved)+1)), append(slices.Clone(saved), 0))},
		{c, 1, framed([]byte{0}, nil)}, {c, 1, framed(size, spoilt)}, {c, 1, saved}, {c, 1, framed(binary.AppendUvarint(nil, top), saved)},
		{c, 0, good}, {c, 2, good},
		{less, 1, good}, {less, 0, stateOf(3, full(0))}, {shallow, 1, good}, {narrow, 1, good},
	} {
		n, e := node.Open(row.c, row.self, diskOf(1, row.b))
		isNoNode(t, fmt.Sprint("row ", i), n, e, api.ErrDisk)
	}
	n, e := node.Open(c, 1, diskOf(1, changed(5, 4)))
	if n == nil || e != api.OK || n.Info().Epoch != 5 {
		t.Errorf("another epoch: %d", e)
	}
}

// Every single bit and every cut of a state, in a journal that is right.
func TestP11_1StatesTurned(t *testing.T) {
	c := config()
	good := stateOf(3, newState(c, 0))
	taken := 0
	for i := range good {
		for bit := range 8 {
			b := slices.Clone(good)
			b[i] ^= 1 << bit
			n, e := node.Open(c, 0, diskOf(1, b))
			epoch := int(binary.BigEndian.Uint32(b[2:]))
			if fine := i >= 2 && i < 6 && epoch < mostEpoch; !fine {
				isNoNode(t, []int{i, bit}, n, e, api.ErrDisk)
			} else if taken++; e != api.OK || n.Info().Epoch != epoch+1 {
				t.Errorf("epoch %d: %d", epoch, e)
			}
		}
		n, e := node.Open(c, 0, diskOf(1, good[:i]))
		isNoNode(t, i, n, e, api.ErrDisk)
	}
	if taken != 24 {
		t.Errorf("%d epochs were taken", taken)
	}
}

func TestP11_1Records(t *testing.T) {
	c := wide()
	s := newState(c, 0)
	recs := [][]byte{
		recordOf(16, set(1, 5, "v")), recordOf(17, set(9, 6, long(64))), recordOf(16, del(2, 7)), recordOf(api.Admin, shard(0, 5, 1, 3, 1)),
		recordOf(1, ack(1, 0)), recordOf(2, data(2, delegation(100, 109, pair(103, "x")))), recordOf(2, data(1, delegation(110, 111))), recordOf(18, set(1, 105, "y")),
	}
	doc, _ := core.Load(c, s)
	for n := range len(recs) + 1 {
		if n > 0 {
			from, m := readRecord(t, recs[n-1])
			if _, did, e := doc.Apply(from, m); !did || e != api.OK {
				t.Fatalf("record %d changes nothing: %d", n-1, e)
			}
		}
		got := openNode(t, c, 0, diskOf(2, stateOf(1, s), recs[:n]...))
		if shown(got.State()) != shown(doc.State()) || shown(got.Durable()) != shown(doc.State()) {
			t.Errorf("%d records: %s; want %s", n, brief(got.State()), brief(doc.State()))
		}
		isInfo(t, got, api.NodeInfo{Up: true, Epoch: 2, Journal: api.JournalStat{Gen: 3, Bytes: 24 + len(stateOf(2, doc.State()))}})
		if len(got.Out()) != 0 {
			t.Errorf("what records lead to is sent again")
		}
	}
}

func TestP11_1NoRecords(t *testing.T) {
	c := config()
	s := newState(c, 0)
	good := recordOf(16, set(1, 5, "v"))
	cut := func(n int) []byte { return good[:len(good)-n] }
	turned := slices.Clone(good)
	turned[len(turned)-1] ^= 1
	for i, recs := range [][][]byte{
		{{16}}, {{0}}, {{255}}, {cut(1)}, {cut(4)}, {good[1:]}, {append(slices.Clone(good), 0)}, {turned}, {append([]byte{16}, good...)}, {make([]byte, mostRecord)},
		{recordOf(17, set(1, 5, "v"))}, {recordOf(0, set(1, 5, "v"))}, {recordOf(api.Admin, set(1, 5, "v"))}, {recordOf(200, set(1, 5, "v"))}, {recordOf(255, set(1, 5, "v"))},
		{recordOf(16, get(1, 5))}, {recordOf(16, scan(1, 5, 9, 1))}, {good, good}, {good, recordOf(16, set(1, 6, "w"))}, {good, recordOf(16, get(2, 5))},
		{recordOf(16, set(2, 5, "v")), good}, {recordOf(1, ack(0, 0))}, {recordOf(1, ack(1, 0))}, {recordOf(0, ack(0, 0))},
		{recordOf(1, data(1, delegation(0, 5))), recordOf(1, data(1, delegation(0, 5)))}, {recordOf(1, data(2, delegation(0, 5)))}, {recordOf(1, data(1, []byte("no payload")))},
		{recordOf(api.Admin, shard(0, 5, 0, 0, 0))}, {recordOf(api.Admin, shard(0, 5, 2, 0, 0))}, {recordOf(16, shard(0, 5, 1, 0, 0))},
		{recordOf(api.Admin, shard(0, 9, 1, 0, 0)), good},
		{recordOf(16, reply(get(1, 1), api.StOK, "v"))}, {recordOf(1, reply(get(1, 1), api.StOK, "v"))},
		{good, {16}, recordOf(16, set(2, 5, "v"))}, {good, recordOf(16, set(2, 5, "v")), turned},
	} {
		n, e := node.Open(c, 0, diskOf(2, stateOf(1, s), recs...))
		isNoNode(t, fmt.Sprint("row ", i), n, e, api.ErrDisk)
	}
	host1 := newState(c, 1)
	n, e := node.Open(c, 1, diskOf(2, stateOf(1, host1), good))
	isNoNode(t, "a record that only leads to a Redirect", n, e, api.ErrDisk)
}

func readRecord(t *testing.T, rec []byte) (api.Addr, api.Message) {
	t.Helper()
	m := letters(t, []api.Datagram{{Data: split(rec[1:], 1024)[0]}})
	if len(m) == 0 {
		t.Fatal("a record that takes more than a datagram")
	}
	return api.Addr(rec[0]), m[0].m
}

// What the journal makes of a disk: its newest whole generation, whatever the older one says, without a torn end.
func TestP11_1Journals(t *testing.T) {
	c := config()
	one, two := newState(c, 0), newState(c, 0)
	two.Free = 3
	a, b := stateOf(4, one), stateOf(5, two)
	rec := recordOf(16, set(1, 5, "v"))
	both := func(x, y []byte) api.Disk { return api.Disk{Slots: [2][]byte{x, y}} }
	for i, row := range []struct {
		d     api.Disk
		epoch int
		gen   uint64
		pairs int
		e     api.Errno
	}{
		{both(slotOf(1, a), slotOf(2, b)), 6, 3, 0, api.OK},
		{both(slotOf(3, a), slotOf(2, b)), 5, 4, 0, api.OK},
		{both(slotOf(1, a), slotOf(2, b, rec)), 6, 3, 1, api.OK},
		{both(slotOf(1, a), slotOf(2, b, rec)[:len(slotOf(2, b, rec))-1]), 6, 3, 0, api.OK},
		{both(slotOf(1, a, rec), slotOf(2, b)[:len(slotOf(2, b))-1]), 5, 2, 1, api.OK},
		{both(slotOf(1, a, rec), nil), 5, 2, 1, api.OK},
		{both(slotOf(1, []byte("none")), slotOf(2, b)), 6, 3, 0, api.OK},
		{both(slotOf(1, a, []byte("none")), slotOf(2, b)), 6, 3, 0, api.OK},
		{both(slotOf(1, a), slotOf(2, []byte("none"))), 0, 0, 0, api.ErrDisk},
		{both(slotOf(1, a), slotOf(2, b, []byte("none"))), 0, 0, 0, api.ErrDisk},
		{both(slotOf(1, a), slotOf(4, b)), 0, 0, 0, api.ErrDisk},
		{both(slotOf(2, b), slotOf(1, a)), 0, 0, 0, api.ErrDisk},
		{both(nil, nil), 0, 0, 0, api.ErrDisk},
		{both(slotOf(1, a)[:19], nil), 0, 0, 0, api.ErrDisk},
		{both([]byte("something that is no slot of a journal"), nil), 0, 0, 0, api.ErrDisk},
		{both(slotOf(1, a), []byte("something that is no slot of a journal")), 0, 0, 0, api.ErrDisk},
		{both(slotOf(1, a), make([]byte, mostSlot+1)), 0, 0, 0, api.ErrDisk},
	} {
		n, e := node.Open(c, 0, row.d)
		if row.e != api.OK {
			isNoNode(t, fmt.Sprint("row ", i), n, e, row.e)
			continue
		}
		if e != api.OK || n.Info().Epoch != row.epoch || n.Info().Journal.Gen != row.gen || len(n.State().Pairs) != row.pairs {
			t.Errorf("row %d: %d, %+v", i, e, n.Info())
		}
	}
}

// A slot of just the limit's bytes, and one byte more. (The records of an older generation are the journal's business alone.)
func TestP11_1GreatestSlot(t *testing.T) {
	c := config()
	state := stateOf(3, newState(c, 0))
	var recs [][]byte
	for range 2000 {
		recs = append(recs, make([]byte, mostRecord))
	}
	left := mostSlot - len(slotOf(1, state, recs...))
	for left > 0 {
		size := min(left-12, mostRecord)
		if rest := left - 12 - size; rest > 0 && rest < 13 {
			size -= 13
		}
		recs = append(recs, make([]byte, size))
		left -= 12 + size
	}
	var d api.Disk
	d.Slots[0], d.Slots[1] = slotOf(1, state, recs...), slotOf(2, state)
	if len(d.Slots[0]) != mostSlot {
		t.Fatalf("%d bytes", len(d.Slots[0]))
	}
	if n := openNode(t, c, 0, d); n.Info().Journal.Gen != 3 {
		t.Errorf("%+v", n.Info())
	}
	d.Slots[0] = append(d.Slots[0], 0)
	n, e := node.Open(c, 0, d)
	isNoNode(t, "a slot above the limit", n, e, api.ErrDisk)
}

// The greatest state that a host may have: it is saved and begun anew like any other.
func TestP11_2GreatestState(t *testing.T) {
	c := api.Config{Hosts: 16, Clients: 16, Pairs: 1024, Bounds: 256, Queue: 16, Window: 16, Group: 64, Keep: 1024, MTU: 1024, Net: 1, Patience: 1, Tries: 1}
	s := newState(c, 0)
	var pairs []api.Pair
	for i := range 32 {
		pairs = append(pairs, pair(uint64(i)<<58|1<<57, long(64)))
	}
	for i := range 16 {
		s.Sessions = append(s.Sessions, api.Session{Client: api.Addr(16 + i), Seq: top, Status: api.StOK})
	}
	payload := packetOf(api.Message{Kind: api.KDelegate, Key: 0, Hi: top, Grant: 65535, Bounds: 65535, Pairs: pairs, Sessions: s.Sessions})
	for h := 1; h < 16; h++ {
		p := &s.End.Peers[h]
		p.Sent, p.Acked, p.Delivered = 16, 0, 0
		for i := range 16 {
			p.Queue = append(p.Queue, payload)
			if i > 0 {
				p.Early = append(p.Early, api.Frame{Seq: uint64(i + 1), Payload: payload})
			}
		}
	}
	for i := range 32768 {
		s.Pairs = append(s.Pairs, pair(uint64(i), long(64)))
	}
	s.Table = nil
	for i := range 8191 {
		s.Table = append(s.Table, api.Segment{Lo: uint64(i) * 32768, Hi: uint64(i)*32768 + 32767, Host: api.Addr(i % 2)})
	}
	s.Table = append(s.Table, api.Segment{Lo: 8191 * 32768, Hi: top, Host: 1})
	b := stateOf(1, s)
	if len(b) > mostState || len(b) < mostState*3/4 {
		t.Fatalf("the state has %d bytes", len(b))
	}
	n := openNode(t, c, 0, diskOf(1, b))
	if shown(n.State()) != shown(s) || n.Info().Epoch != 2 {
		t.Errorf("another state")
	}
	give(t, n, 16, set(top, 5, "v"), api.OK)
	isErr(t, n.Compact(), api.OK)
	isSync(t, n, 0)
	isErr(t, n.Crash(0), api.OK)
	isErr(t, n.Restart(), api.OK)
	if shown(n.State()) != shown(s) {
		t.Errorf("another state behind a crash")
	}
}
