package node_test

import (
	"bytes"
	"encoding/binary"
	"fmt"
	"hash/crc32"
	"reflect"
	"slices"
	"testing"
	"unsafe"

	"shard/api"
	"shard/core"
	"shard/frag"
	"shard/node"
	"shard/wire"
)

const top uint64 = 1<<64 - 1

// The limits that the document names.
const (
	mostEpoch  = 16777215
	mostSlot   = 16777216
	mostState  = 4194304
	mostRecord = 8192
	joinSlots  = 16
	joinAge    = 8
)

// sealed lays pieces one behind the other, behind each the sum of all pieces so far.
func sealed(pieces ...[]byte) []byte {
	sum := uint32(0)
	var out []byte
	for _, piece := range pieces {
		sum = crc32.Update(sum, crc32.MakeTable(crc32.Castagnoli), piece)
		out = binary.BigEndian.AppendUint32(append(out, piece...), sum)
	}
	return out
}

func four(x int) []byte { return binary.BigEndian.AppendUint32(nil, uint32(x)) }

// slotOf gives the bytes of a journal's slot.
func slotOf(gen uint64, state []byte, recs ...[]byte) []byte {
	head := binary.BigEndian.AppendUint64([]byte("SHJ1"), gen)
	pieces := [][]byte{append(head, four(len(state))...), state}
	for _, rec := range recs {
		pieces = append(pieces, four(len(rec)), rec)
	}
	return sealed(pieces...)
}

// diskOf gives the disk with one slot.
func diskOf(gen uint64, state []byte, recs ...[]byte) api.Disk {
	var d api.Disk
	d.Slots[1-gen%2] = slotOf(gen, state, recs...)
	return d
}

// stateOf gives the bytes of a journal's state, as the chapter says.
func stateOf(epoch int, s api.HostState) []byte {
	saved, e := core.Save(s)
	if e != api.OK {
		panic(e)
	}
	b := append([]byte{'N', 1}, four(epoch)...)
	return append(binary.AppendUvarint(b, uint64(len(saved))), saved...)
}

func packetOf(m api.Message) []byte {
	b, e := wire.Marshal(m)
	if e != api.OK {
		panic(e)
	}
	return b
}

func recordOf(from api.Addr, m api.Message) []byte { return append([]byte{byte(from)}, packetOf(m)...) }

// docGeneration is what a slot says: its state and its records; false, if it is not whole. These tests make no disk of it that has rot.
func docGeneration(b []byte) (gen uint64, state []byte, recs [][]byte, whole bool) {
	if len(b) < 20 {
		return 0, nil, nil, false
	}
	gen = binary.BigEndian.Uint64(b[4:])
	at := 20 + int(binary.BigEndian.Uint32(b[12:])) + 4
	if len(b) < at {
		return 0, nil, nil, false
	}
	state = b[20 : at-4]
	for len(b) >= at+8 {
		end := at + 8 + int(binary.BigEndian.Uint32(b[at:]))
		if len(b) < end+4 {
			break
		}
		recs = append(recs, b[at+8:end])
		at = end + 4
	}
	return gen, state, recs, true
}

// docMail is a datagram in the outbox: sent behind so many changes of all that there were.
type docMail struct {
	d      api.Datagram
	behind int
	free   bool
}

// docNode says the chapter's rules once more, in other words than the package: the journal's bytes are made anew from its generation whenever they are asked for, an outbox holds all in one row, and what is durable is read back each time.
type docNode struct {
	c      api.Config
	self   api.Addr
	down   bool
	disk   api.Disk // while it is down
	epoch  int
	core   *core.Core
	joiner *frag.Joiner
	gen    uint64
	state  []byte
	recs   [][]byte
	safe   int    // records that are synced
	unborn bool   // not even the state is synced
	other  []byte // the other slot
	count  uint64 // packets
	outbox []docMail

	past   []string // the states behind each change of the core, as texts, the first one ahead of all
	synced int      // the last one of them that no crash takes back
	left   int      // what has left was sent behind so many changes at most
}

func docStart(c api.Config, self api.Addr) *docNode {
	first, e := core.New(c, self)
	if e != api.OK {
		panic(e)
	}
	d := &docNode{c: c, self: self, down: true, disk: diskOf(1, stateOf(0, first.State())), past: []string{shown(first.State())}}
	if e := d.restart(); e != api.OK {
		panic(e)
	}
	return d
}

// docHeld gives what a disk that some node left holds: the newest whole generation, its state and records run again.
func docHeld(c api.Config, d api.Disk) (uint64, int, *core.Core, []byte) {
	a, state, recs, whole := docGeneration(d.Slots[0])
	b, state1, recs1, whole1 := docGeneration(d.Slots[1])
	gen, used := a, d.Slots[0]
	if !whole || whole1 && b > a {
		gen, state, recs, used = b, state1, recs1, d.Slots[1]
	}
	size, n := binary.Uvarint(state[6:])
	s, e := core.Read(state[6+n:][:size])
	if e != api.OK {
		panic(e)
	}
	c0, e := core.Load(c, s)
	if e != api.OK {
		panic(e)
	}
	for _, rec := range recs {
		m, _, _ := wire.Parse(rec[1:])
		if _, did, e := c0.Apply(api.Addr(rec[0]), m); !did || e != api.OK {
			panic("a record that changes nothing")
		}
	}
	return gen, int(binary.BigEndian.Uint32(state[2:])), c0, used[:len(slotOf(gen, state, recs...))]
}

func (d *docNode) restart() api.Errno {
	if !d.down {
		return api.ErrUp
	}
	gen, epoch, c0, used := docHeld(d.c, d.disk)
	switch {
	case epoch == mostEpoch:
		return api.ErrEpoch
	case gen == top:
		return api.ErrDisk
	}
	*d = docNode{c: d.c, self: d.self, epoch: epoch + 1, core: c0, gen: gen + 1, state: stateOf(epoch+1, c0.State()), other: used, past: d.past, synced: d.synced, left: d.left}
	d.joiner, _ = frag.New(joinSlots, joinAge)
	return api.OK
}

func (d *docNode) bytes() []byte { return slotOf(d.gen, d.state, d.recs...) }

// unsynced tells how many bytes wait.
func (d *docNode) unsynced() int {
	if d.unborn {
		return len(d.bytes())
	}
	return len(d.bytes()) - len(slotOf(d.gen, d.state, d.recs[:d.safe]...))
}

func (d *docNode) sync() int {
	n := len(d.recs) - d.safe
	d.safe, d.unborn, d.synced = len(d.recs), false, len(d.past)-1
	return n
}

func (d *docNode) snapshot() api.Errno {
	if d.gen == top {
		return api.ErrGen
	}
	d.synced = len(d.past) - 1
	d.other, d.gen, d.state, d.recs, d.safe, d.unborn = d.bytes(), d.gen+1, stateOf(d.epoch, d.core.State()), nil, 0, true
	return api.OK
}

func (d *docNode) atEnd(synced bool) {
	if len(d.recs)-d.safe >= d.c.Group {
		d.sync()
		synced = true
	}
	if synced && len(d.recs) >= d.c.Keep && d.snapshot() == api.OK {
		d.sync()
	}
	for i := range d.outbox {
		d.outbox[i].free = d.outbox[i].free || d.unsynced() == 0
	}
}

func (d *docNode) send(outs []api.Out) {
	for _, o := range outs {
		parts, e := frag.Split(packetOf(o.M), uint64(d.epoch)<<40|d.count&(1<<40-1), d.c.MTU)
		if e != api.OK {
			panic(e)
		}
		d.count++
		for _, b := range parts {
			d.outbox = append(d.outbox, docMail{api.Datagram{From: d.self, To: o.To, Data: b}, len(d.past) - 1, false})
		}
	}
}

func (d *docNode) take(from api.Addr, b []byte) api.Errno {
	if d.down {
		return api.ErrDown
	}
	if len(d.bytes())+12+mostRecord > mostSlot {
		return api.ErrSlot
	}
	packet, whole, e := d.joiner.Take(from, b)
	if e != api.OK {
		return e
	}
	if whole {
		m, _, e := wire.Parse(packet)
		if e != api.OK {
			return e
		}
		outs, did, e := d.core.Apply(from, m)
		if e != api.OK {
			return e
		}
		if did {
			d.recs = append(slices.Clip(d.recs), recordOf(from, m))
			d.past = append(slices.Clip(d.past), shown(d.core.State()))
		}
		d.send(outs)
	}
	d.atEnd(false)
	return api.OK
}

func (d *docNode) tick() api.Errno {
	if d.down {
		return api.ErrDown
	}
	d.joiner.Tick()
	d.send(d.core.Tick())
	d.atEnd(false)
	return api.OK
}

func (d *docNode) callSync() (int, api.Errno) {
	if d.down {
		return 0, api.ErrDown
	}
	n := d.sync()
	d.atEnd(true)
	return n, api.OK
}

func (d *docNode) compact() api.Errno {
	if d.down {
		return api.ErrDown
	}
	e := d.snapshot()
	if e == api.OK {
		d.atEnd(false)
	}
	return e
}

func (d *docNode) out() []api.Datagram {
	var given []api.Datagram
	var rest []docMail
	for _, m := range d.outbox {
		if !m.free {
			rest = append(rest, m)
			continue
		}
		given = append(given, m.d)
		d.left = max(d.left, m.behind)
	}
	d.outbox = rest
	return given
}

func (d *docNode) leaves(keep int) api.Disk {
	all := d.bytes()
	var left api.Disk
	left.Slots[1-d.gen%2] = all[:len(all)-d.unsynced()+min(keep, d.unsynced())]
	left.Slots[d.gen%2] = d.other
	return left
}

func (d *docNode) crash(keep int) api.Errno {
	switch {
	case d.down:
		return api.ErrDown
	case keep < 0:
		return api.ErrArg
	}
	d.disk = d.leaves(keep)
	d.down = true
	d.outbox, d.joiner = nil, nil
	_, _, d.core, _ = docHeld(d.c, d.disk)
	return api.OK
}

func (d *docNode) told() told {
	if d.down {
		_, epoch, c0, _ := docHeld(d.c, d.disk)
		return told{d.disk, c0.State(), c0.State(), api.NodeInfo{Epoch: epoch}}
	}
	_, _, safe, _ := docHeld(d.c, d.leaves(0))
	info := api.NodeInfo{Up: true, Epoch: d.epoch, Partial: len(d.joiner.Slots()), Journal: api.JournalStat{
		Gen: d.gen, Slot: int(1 - d.gen%2), Records: len(d.recs), Bytes: len(d.bytes()), Waiting: len(d.recs) - d.safe, Unsynced: d.unsynced(),
	}}
	for _, m := range d.outbox {
		if !m.free {
			info.Held++
		}
	}
	return told{d.leaves(0), d.core.State(), safe.State(), info}
}

// told is all that a node tells.
type told struct {
	Disk           api.Disk
	State, Durable api.HostState
	Info           api.NodeInfo
}

func tell(n *node.Node) told { return told{n.Disk(), n.State(), n.Durable(), n.Info()} }

// shown is a value as a text, in which an empty list is the same as none.
func shown(v any) string { return fmt.Sprintf("%+v", v) }

func brief(v any) string {
	text := shown(v)
	return text[:min(len(text), 600)]
}

// same tells whether two values are the same; an empty list is the same as none.
func same(a, b any) bool { return reflect.DeepEqual(a, b) || shown(a) == shown(b) }

// isTold wants a node to tell what the document's does, twice, as the first time it may read its disk.
func isTold(t *testing.T, n *node.Node, d *docNode) {
	t.Helper()
	want := d.told()
	for range 2 {
		got := tell(n)
		if got.Info != want.Info {
			t.Fatalf("Info: %+v; want %+v", got.Info, want.Info)
		}
		if !same(got.State, want.State) {
			t.Fatalf("State: %s; want %s", brief(got.State), brief(want.State))
		}
		if !same(got.Durable, want.Durable) {
			t.Fatalf("Durable: %s; want %s", brief(got.Durable), brief(want.Durable))
		}
		if !bytes.Equal(got.Disk.Slots[0], want.Disk.Slots[0]) || !bytes.Equal(got.Disk.Slots[1], want.Disk.Slots[1]) {
			t.Fatalf("Disk: %s; want %s", brief(got.Disk), brief(want.Disk))
		}
	}
}

// twin is a node and what the document says of it, call by call.
type twin struct {
	t *testing.T
	n *node.Node
	d *docNode
}

func newTwin(t *testing.T, c api.Config, self api.Addr) *twin {
	t.Helper()
	w := &twin{t, newNode(t, c, self), docStart(c, self)}
	isTold(t, w.n, w.d)
	return w
}

func (w *twin) is(what string, got, want api.Errno) {
	w.t.Helper()
	if got != want {
		w.t.Fatalf("%s: %d; want %d", what, got, want)
	}
	isTold(w.t, w.n, w.d)
}

func (w *twin) take(from api.Addr, b []byte) api.Errno {
	w.t.Helper()
	e := w.n.Take(from, b)
	w.is(fmt.Sprintf("Take(%d, %x)", from, b), e, w.d.take(from, b))
	return e
}

// give gives a message in fragments; it answers the last one's error.
func (w *twin) give(from api.Addr, m api.Message) api.Errno {
	w.t.Helper()
	var e api.Errno
	for _, b := range partsOf(m, w.d.c.MTU) {
		e = w.take(from, b)
	}
	return e
}

func (w *twin) tick() {
	w.t.Helper()
	w.is("Tick", w.n.Tick(), w.d.tick())
}

func (w *twin) sync() {
	w.t.Helper()
	got, e := w.n.Sync()
	want, e1 := w.d.callSync()
	w.is("Sync", e, e1)
	if got != want {
		w.t.Fatalf("Sync: %d; want %d", got, want)
	}
}

func (w *twin) compact() {
	w.t.Helper()
	w.is("Compact", w.n.Compact(), w.d.compact())
}

func (w *twin) out() []api.Datagram {
	w.t.Helper()
	got, want := w.n.Out(), w.d.out()
	if !same(got, want) {
		w.t.Fatalf("Out: %s; want %s", brief(got), brief(want))
	}
	isTold(w.t, w.n, w.d)
	return got
}

// crash wants, beside what the document's node tells, what P11.12 says of the states and of what has left.
func (w *twin) crash(keep int) {
	w.t.Helper()
	e := w.n.Crash(keep)
	w.is(fmt.Sprintf("Crash(%d)", keep), e, w.d.crash(keep))
	if e != api.OK {
		return
	}
	back := slices.Index(w.d.past, shown(w.n.State()))
	if back < w.d.synced || back < w.d.left {
		w.t.Fatalf("Crash(%d): back behind change %d of %d, of which %d are synced and %d told outside", keep, back, len(w.d.past)-1, w.d.synced, w.d.left)
	}
	w.d.past, w.d.synced = w.d.past[:back+1], back
}

func (w *twin) restart() {
	w.t.Helper()
	w.is("Restart", w.n.Restart(), w.d.restart())
}

// config is the configuration of the chapter's examples.
func config() api.Config {
	return api.Config{Hosts: 2, Clients: 1, Pairs: 4, Bounds: 4, Queue: 2, Window: 1, Group: 2, Keep: 64, MTU: 256, Net: 1, Patience: 1, Tries: 1}
}

// wide is a configuration with plenty of everything.
func wide() api.Config {
	c := config()
	c.Hosts, c.Clients, c.Pairs, c.Bounds, c.Queue, c.Window, c.Group = 3, 3, 100, 50, 4, 2, 64
	return c
}

func newNode(t *testing.T, c api.Config, self api.Addr) *node.Node {
	t.Helper()
	n, e := node.New(c, self)
	if n == nil || e != api.OK {
		t.Fatalf("New(%+v, %d): %d", c, self, e)
	}
	return n
}

func openNode(t *testing.T, c api.Config, self api.Addr, d api.Disk) *node.Node {
	t.Helper()
	n, e := node.Open(c, self, d)
	if n == nil || e != api.OK {
		t.Fatalf("Open(%+v, %d): %d", c, self, e)
	}
	return n
}

func newState(c api.Config, self api.Addr) api.HostState {
	made, e := core.New(c, self)
	if e != api.OK {
		panic(e)
	}
	return made.State()
}

// lastId numbers the packets that come in: no two tests that run at the same time share it, as none does.
var lastId uint64

func partsOf(m api.Message, mtu int) [][]byte { return split(packetOf(m), mtu) }

func split(packet []byte, mtu int) [][]byte {
	lastId++
	parts, e := frag.Split(packet, lastId, mtu)
	if e != api.OK {
		panic(e)
	}
	return parts
}

// give gives a message in one or more datagrams, and wants an answer to the last.
func give(t *testing.T, n *node.Node, from api.Addr, m api.Message, want api.Errno) {
	t.Helper()
	parts := partsOf(m, 256)
	for i, b := range parts {
		expect := api.OK
		if i == len(parts)-1 {
			expect = want
		}
		isErr(t, n.Take(from, b), expect)
	}
}

// letter is a message that has left, with its packet's number.
type letter struct {
	from, to api.Addr
	id       uint64
	m        api.Message
}

// letters puts the packets of datagrams together again.
func letters(t *testing.T, list []api.Datagram) []letter {
	t.Helper()
	joiner, _ := frag.New(joinSlots, joinAge)
	var all []letter
	for _, d := range list {
		f, _ := frag.Look(d.Data)
		packet, whole, e := joiner.Take(d.From, d.Data)
		if e != api.OK {
			t.Fatalf("a fragment that is none: %d", e)
		}
		if whole {
			m, _, e := wire.Parse(packet)
			if e != api.OK {
				t.Fatalf("a packet that is none: %d", e)
			}
			all = append(all, letter{d.From, d.To, f.Id, m})
		}
	}
	if len(joiner.Slots()) > 0 {
		t.Errorf("of a packet only some fragments have left")
	}
	return all
}

func isErr(t *testing.T, got, want api.Errno) {
	t.Helper()
	if got != want {
		t.Errorf("%d; want %d", got, want)
	}
}

func isInfo(t *testing.T, n *node.Node, want api.NodeInfo) {
	t.Helper()
	if got := n.Info(); got != want {
		t.Errorf("Info: %+v; want %+v", got, want)
	}
}

func isSync(t *testing.T, n *node.Node, want int) {
	t.Helper()
	if got, e := n.Sync(); got != want || e != api.OK {
		t.Errorf("Sync: %d, %d; want %d", got, e, want)
	}
}

// isOut wants letters to leave, of which nothing but their messages and numbers is said.
func isOut(t *testing.T, n *node.Node, want ...letter) {
	t.Helper()
	if got := letters(t, n.Out()); shown(got) != shown(want) {
		t.Errorf("Out: %s; want %s", brief(got), brief(want))
	}
}

func isPairs(t *testing.T, s api.HostState, want ...uint64) {
	t.Helper()
	var got []uint64
	for _, p := range s.Pairs {
		got = append(got, p.Key)
	}
	if !slices.Equal(got, want) {
		t.Errorf("the pairs %v; want %v", got, want)
	}
}

func get(seq, key uint64) api.Message { return api.Message{Kind: api.KGet, Seq: seq, Key: key} }

func set(seq, key uint64, value string) api.Message {
	return api.Message{Kind: api.KSet, Seq: seq, Key: key, Value: []byte(value)}
}

func del(seq, key uint64) api.Message { return api.Message{Kind: api.KDelete, Seq: seq, Key: key} }

func scan(seq, lo, hi uint64, limit uint8) api.Message {
	return api.Message{Kind: api.KScan, Seq: seq, Key: lo, Hi: hi, Limit: limit}
}

func shard(lo, hi uint64, to api.Addr, grant, bounds uint32) api.Message {
	return api.Message{Kind: api.KShard, Seq: 5, Key: lo, Hi: hi, Host: to, Grant: grant, Bounds: bounds}
}

func data(seq uint64, payload []byte) api.Message {
	return api.Message{Kind: api.KData, Seq: seq, Payload: payload}
}

func ack(seq, mask uint64) api.Message { return api.Message{Kind: api.KAck, Seq: seq, Mask: mask} }

func reply(m api.Message, status api.Status, value string) api.Message {
	return api.Message{Kind: api.KReply, Seq: m.Seq, Of: m.Kind, Status: status, Value: []byte(value)}
}

func delegation(lo, hi uint64, pairs ...api.Pair) []byte {
	return packetOf(api.Message{Kind: api.KDelegate, Key: lo, Hi: hi, Pairs: pairs})
}

func pair(key uint64, value string) api.Pair { return api.Pair{Key: key, Value: []byte(value)} }

// long gives a value of n bytes.
func long(n int) string { return string(make([]byte, n)) }

// room is where a list lies, spare room included.
type room struct{ first, behind uintptr }

func roomOf[T any](list []T) []room {
	var one T
	if cap(list) == 0 {
		return nil
	}
	first := uintptr(unsafe.Pointer(unsafe.SliceData(list)))
	return []room{{first, first + uintptr(cap(list))*unsafe.Sizeof(one)}}
}

func roomsOfDatagrams(list []api.Datagram) []room {
	rooms := roomOf(list)
	for _, d := range list {
		rooms = append(rooms, roomOf(d.Data)...)
	}
	return rooms
}

func roomsOfTold(a told) []room {
	rooms := append(roomOf(a.Disk.Slots[0]), roomOf(a.Disk.Slots[1])...)
	return slices.Concat(rooms, roomsOfState(a.State), roomsOfState(a.Durable))
}

func roomsOfState(s api.HostState) []room {
	rooms := slices.Concat(roomOf(s.Table), roomOf(s.Pairs), roomOf(s.Sessions), roomOf(s.End.Peers))
	for _, p := range s.Pairs {
		rooms = append(rooms, roomOf(p.Value)...)
	}
	for _, p := range s.End.Peers {
		rooms = slices.Concat(rooms, roomOf(p.Queue), roomOf(p.Early))
		for _, payload := range p.Queue {
			rooms = append(rooms, roomOf(payload)...)
		}
		for _, f := range p.Early {
			rooms = append(rooms, roomOf(f.Payload)...)
		}
	}
	return rooms
}

func apart(rooms []room) bool {
	slices.SortFunc(rooms, func(a, b room) int { return int(a.first) - int(b.first) })
	for i := 1; i < len(rooms); i++ {
		if rooms[i-1].behind > rooms[i].first {
			return false
		}
	}
	return true
}

// spoil writes over a list of bytes and its spare room.
func spoil(b []byte) {
	b = b[:cap(b)]
	for i := range b {
		b[i] ^= 0x5a
	}
}

func spoilDisk(d api.Disk) {
	spoil(d.Slots[0])
	spoil(d.Slots[1])
}

func spoilDatagrams(list []api.Datagram) {
	for i, d := range list {
		spoil(d.Data)
		list[i] = api.Datagram{From: 99}
	}
}

func spoilState(s api.HostState) {
	for _, p := range s.Pairs {
		spoil(p.Value)
	}
	for _, p := range s.End.Peers {
		for _, payload := range p.Queue {
			spoil(payload)
		}
		for _, f := range p.Early {
			spoil(f.Payload)
		}
		clear(p.Queue)
		clear(p.Early)
	}
	clear(s.Table)
	clear(s.Pairs)
	clear(s.Sessions)
	clear(s.End.Peers)
}
