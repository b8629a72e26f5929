package core_test

import (
	"encoding/binary"
	"fmt"
	"hash/crc32"
	"maps"
	"slices"
	"testing"
	"unsafe"

	"shard/api"
	"shard/core"
	"shard/wire"
	"shard/xonce"
)

const top uint64 = 1<<64 - 1

// The limits that the document names.
const (
	mostHosts    = 16
	mostSegments = 8192
	mostShelf    = 32768
	mostValue    = 64
	mostMove     = 32
	mostGrant    = 65535
	mostQueue    = 16
	mostCredits  = 1 << 30
)

// docCore says the chapter's rules once more, in other words than the package: the table is a list of places at which a new owner begins, pairs and sessions are Go's maps, and every status is found by trying. The end is layer 8's.
type docCore struct {
	c           api.Config
	self        api.Addr
	begins      map[uint64]api.Addr
	pairs       map[uint64]string
	sessions    map[api.Addr]api.Session
	free, spare int
	end         *xonce.End
}

func newDoc(c api.Config, self api.Addr) *docCore {
	end, _ := xonce.New(self, c.Hosts, c.Queue, c.Window)
	return &docCore{c, self, map[uint64]api.Addr{0: 0}, map[uint64]string{}, map[api.Addr]api.Session{}, c.Pairs, c.Bounds, end}
}

func loadDoc(c api.Config, s api.HostState) *docCore {
	d := newDoc(c, s.Self)
	for _, g := range s.Table {
		d.begins[g.Lo] = g.Host
	}
	for _, p := range s.Pairs {
		d.pairs[p.Key] = string(p.Value)
	}
	for _, x := range s.Sessions {
		d.sessions[x.Client] = x
	}
	d.free, d.spare = s.Free, s.Spare
	d.end, _ = xonce.Load(s.Self, c.Hosts, c.Queue, c.Window, s.End)
	return d
}

func (d *docCore) table() []api.Segment {
	var list []api.Segment
	for _, lo := range slices.Sorted(maps.Keys(d.begins)) {
		if n := len(list); n > 0 {
			list[n-1].Hi = lo - 1
		}
		list = append(list, api.Segment{Lo: lo, Hi: top, Host: d.begins[lo]})
	}
	return list
}

func (d *docCore) segment(key uint64) api.Segment {
	for _, g := range d.table() {
		if g.Lo <= key && key <= g.Hi {
			return g
		}
	}
	panic("a key in no segment")
}

// given is the table with a range in other hands, and by how many segments it is longer.
func (d *docCore) given(lo, hi uint64, to api.Addr) (map[uint64]api.Addr, int) {
	next := maps.Clone(d.begins)
	if hi < top {
		next[hi+1] = d.segment(hi + 1).Host
	}
	maps.DeleteFunc(next, func(at uint64, _ api.Addr) bool { return lo <= at && at <= hi })
	next[lo] = to
	before := api.NoOne
	for _, at := range slices.Sorted(maps.Keys(next)) {
		host := next[at]
		if host == before {
			delete(next, at)
		}
		before = host
	}
	return next, len(next) - len(d.begins)
}

func (d *docCore) owns(lo, hi uint64) bool {
	g := d.segment(lo)
	return g.Host == d.self && hi <= g.Hi
}

func (d *docCore) within(lo, hi uint64) []api.Pair {
	var list []api.Pair
	for _, key := range slices.Sorted(maps.Keys(d.pairs)) {
		if lo <= key && key <= hi {
			list = append(list, api.Pair{Key: key, Value: []byte(d.pairs[key])})
		}
	}
	return list
}

func (d *docCore) cut(lo, hi uint64) int {
	n := len(d.pairs)
	maps.DeleteFunc(d.pairs, func(key uint64, _ string) bool { return lo <= key && key <= hi })
	return n - len(d.pairs)
}

func (d *docCore) sessionList() []api.Session {
	var list []api.Session
	for _, who := range slices.Sorted(maps.Keys(d.sessions)) {
		list = append(list, d.sessions[who])
	}
	return list
}

func (d *docCore) state() api.HostState {
	return api.HostState{Self: d.self, Table: d.table(), Pairs: d.within(0, top), Sessions: d.sessionList(), Free: d.free, Spare: d.spare, End: d.end.State()}
}

func isRequest(k api.Kind) bool { return k >= api.KGet && k <= api.KScan }

func changes(k api.Kind) bool { return k >= api.KSet && k <= api.KCas }

func (d *docCore) mayCome(from api.Addr, k api.Kind) bool {
	client := from >= 16 && int(from) < 16+d.c.Clients
	host := int(from) < d.c.Hosts && from != d.self
	return client && isRequest(k) || from == 32 && k == api.KShard || host && (k == api.KData || k == api.KAck)
}

func (d *docCore) apply(from api.Addr, m api.Message) ([]api.Out, bool, api.Errno) {
	if !d.mayCome(from, m.Kind) {
		return nil, false, api.ErrFrom
	}
	if e := wire.Check(m); e != api.OK {
		return nil, false, e
	}
	before := shown(d.state())
	outs, e := d.do(from, m)
	return outs, shown(d.state()) != before, e
}

func (d *docCore) do(from api.Addr, m api.Message) ([]api.Out, api.Errno) {
	switch m.Kind {
	case api.KShard:
		outs, status := d.shard(m)
		return append(outs, api.Out{To: from, M: done(m.Seq, status)}), api.OK
	case api.KData:
		return d.data(from, m)
	case api.KAck:
		taken, e := d.end.Take(from, m)
		return taken.Mails, e
	}
	return d.request(from, m), api.OK
}

func (d *docCore) request(from api.Addr, m api.Message) []api.Out {
	g := d.segment(m.Key)
	if g.Host != d.self {
		return []api.Out{{To: from, M: redirect(m.Seq, g)}}
	}
	was := d.sessions[from]
	answer := api.Message{Kind: api.KReply, Seq: m.Seq, Of: m.Kind}
	switch {
	case m.Seq < was.Seq:
		return nil
	case m.Seq == was.Seq && changes(m.Kind):
		answer.Status = was.Status
		if wire.Check(answer) != api.OK {
			return nil
		}
	case changes(m.Kind):
		answer.Status = d.execute(m)
		d.sessions[from] = api.Session{Client: from, Seq: m.Seq, Status: answer.Status}
	case m.Kind == api.KGet:
		answer.Status = api.StMissing
		if value, there := d.pairs[m.Key]; there {
			answer.Status, answer.Value = api.StOK, []byte(value)
		}
	default:
		answer.Status, answer.Hi = api.StOK, min(m.Hi, g.Hi)
		answer.Pairs = d.within(m.Key, answer.Hi)
		if n := int(m.Limit); len(answer.Pairs) > n {
			answer.Pairs = answer.Pairs[:n]
			answer.Hi = answer.Pairs[n-1].Key
		}
	}
	return []api.Out{{To: from, M: answer}}
}

func (d *docCore) execute(m api.Message) api.Status {
	value, there := d.pairs[m.Key]
	if m.Kind == api.KDelete {
		if !there {
			return api.StMissing
		}
		delete(d.pairs, m.Key)
		d.free++
		return api.StOK
	}
	if m.Kind == api.KCas && m.Has && (!there || value != string(m.Old)) {
		return api.StDiffers
	}
	if m.Kind == api.KCas && !m.Has && there {
		return api.StDiffers
	}
	if there {
		d.pairs[m.Key] = string(m.Value)
		return api.StOK
	}
	if d.free == 0 || len(d.pairs) == mostShelf {
		return api.StNoCredit
	}
	d.pairs[m.Key] = string(m.Value)
	d.free--
	return api.StOK
}

func (d *docCore) shard(m api.Message) ([]api.Out, api.Status) {
	if int(m.Host) >= d.c.Hosts {
		return nil, api.StNoHost
	}
	if m.Host == d.self {
		return nil, api.StSelf
	}
	if !d.owns(m.Key, m.Hi) {
		return nil, api.StNotOwner
	}
	pairs := d.within(m.Key, m.Hi)
	if len(pairs) > mostMove {
		return nil, api.StMany
	}
	if d.free < int(m.Grant) {
		return nil, api.StNoCredit
	}
	begins, cost := d.given(m.Key, m.Hi, m.Host)
	if d.spare < int(m.Bounds)+2+cost || len(begins) > mostSegments {
		return nil, api.StNoBound
	}
	payload := delegation(m.Key, m.Hi, m.Grant, m.Bounds, pairs, d.sessionList())
	outs, e := d.end.Send(m.Host, payload)
	if e != api.OK {
		return nil, api.StQueue
	}
	d.begins = begins
	d.spare -= int(m.Bounds) + 2 + cost
	d.free -= int(m.Grant)
	d.cut(m.Key, m.Hi)
	return outs, api.StOK
}

func (d *docCore) data(from api.Addr, m api.Message) ([]api.Out, api.Errno) {
	if x, _, e := wire.Parse(m.Payload); e != api.OK || x.Kind != api.KDelegate {
		return nil, api.ErrPayload
	}
	w := d.c.Window
	if mostSegments-len(d.begins) < 2*w || mostShelf-len(d.pairs) < mostMove*w ||
		d.free+len(d.pairs) > mostCredits-w*(mostGrant+mostMove) || d.spare+len(d.begins) > mostCredits-w*(mostGrant+2) {
		return nil, api.ErrCrowded
	}
	taken, e := d.end.Take(from, m)
	for _, up := range taken.Ups {
		x, _, _ := wire.Parse(up.Body)
		d.install(x)
	}
	return taken.Mails, e
}

func (d *docCore) install(x api.Message) {
	d.free += d.cut(x.Key, x.Hi)
	begins, cost := d.given(x.Key, x.Hi, d.self)
	d.begins = begins
	for _, p := range x.Pairs {
		d.pairs[p.Key] = string(p.Value)
	}
	d.free += int(x.Grant)
	d.spare += int(x.Bounds) + 2 - cost
	for _, came := range x.Sessions {
		if here, there := d.sessions[came.Client]; !there || here.Seq < came.Seq {
			d.sessions[came.Client] = came
		}
	}
}

// docWellFormed says P10.16.
func docWellFormed(s api.HostState) bool {
	if s.Self > 15 || s.Free < 0 || s.Spare < 0 || len(s.Table) == 0 || len(s.Table) > mostSegments || len(s.Pairs) > mostShelf {
		return false
	}
	if s.Free > mostCredits-len(s.Pairs) || s.Spare > mostCredits-len(s.Table) {
		return false
	}
	mine := func(key uint64) bool {
		return slices.ContainsFunc(s.Table, func(g api.Segment) bool { return g.Lo <= key && key <= g.Hi && g.Host == s.Self })
	}
	for i, g := range s.Table {
		if i == 0 && g.Lo != 0 || i > 0 && (g.Lo == 0 || g.Lo-1 != s.Table[i-1].Hi || g.Host == s.Table[i-1].Host) || g.Hi < g.Lo || g.Host > 15 {
			return false
		}
	}
	if s.Table[len(s.Table)-1].Hi != top {
		return false
	}
	for i, p := range s.Pairs {
		if i > 0 && p.Key <= s.Pairs[i-1].Key || len(p.Value) > mostValue || !mine(p.Key) {
			return false
		}
	}
	for i, x := range s.Sessions {
		if i > 0 && x.Client <= s.Sessions[i-1].Client || x.Client < 16 || x.Client > 31 || x.Seq == 0 || x.Status < api.StOK || x.Status > api.StNoCredit {
			return false
		}
	}
	if _, e := xonce.Load(s.Self, len(s.End.Peers), mostQueue, mostQueue, s.End); e != api.OK {
		return false
	}
	for _, p := range s.End.Peers {
		for _, b := range p.Queue {
			if x, _, e := wire.Parse(b); e != api.OK || x.Kind != api.KDelegate {
				return false
			}
		}
		for _, f := range p.Early {
			if x, _, e := wire.Parse(f.Payload); e != api.OK || x.Kind != api.KDelegate {
				return false
			}
		}
	}
	return true
}

// docCheckState says P10.17.
func docCheckState(c api.Config, s api.HostState) api.Errno {
	if docCheckConfig(c) != api.OK {
		return api.ErrConfig
	}
	if !docWellFormed(s) || int(s.Self) >= c.Hosts {
		return api.ErrState
	}
	for _, g := range s.Table {
		if int(g.Host) >= c.Hosts {
			return api.ErrState
		}
	}
	if _, e := xonce.Load(s.Self, c.Hosts, c.Queue, c.Window, s.End); e != api.OK {
		return api.ErrState
	}
	return api.OK
}

// docCheckConfig says P10.1.
func docCheckConfig(c api.Config) api.Errno {
	in := func(n, least, most int) bool { return least <= n && n <= most }
	if in(c.Hosts, 1, 16) && in(c.Clients, 0, 16) && in(c.Pairs, 0, 1024) && in(c.Bounds, 0, 256) && in(c.Queue, 1, 16) && in(c.Window, 1, c.Queue) &&
		in(c.Group, 1, 64) && in(c.Keep, 1, 1024) && in(c.MTU, 64, 1024) && in(c.Net, 1, 4096) && in(c.Patience, 1, 64) && in(c.Tries, 1, 64) {
		return api.OK
	}
	return api.ErrConfig
}

// docBody says the bytes of P10.19 ahead of the sum, of any state.
func docBody(s api.HostState) []byte {
	u64 := binary.BigEndian.AppendUint64
	num := func(b []byte, n int) []byte { return binary.AppendUvarint(b, uint64(n)) }
	block := func(b, x []byte) []byte { return append(num(b, len(x)), x...) }
	b := num([]byte{0xC0, 0x01, byte(s.Self)}, len(s.Table))
	for _, g := range s.Table {
		b = append(u64(b, g.Hi), byte(g.Host))
	}
	b = num(b, len(s.Pairs))
	for _, p := range s.Pairs {
		b = block(u64(b, p.Key), p.Value)
	}
	b = num(b, len(s.Sessions))
	for _, x := range s.Sessions {
		b = append(u64(append(b, byte(x.Client)), x.Seq), byte(x.Status))
	}
	b = append(num(num(b, s.Free), s.Spare), byte(len(s.End.Peers)))
	for _, p := range s.End.Peers {
		b = num(u64(u64(u64(u64(b, p.Sent), p.Acked), p.Mask), p.Delivered), len(p.Queue))
		for _, x := range p.Queue {
			b = block(b, x)
		}
		b = num(b, len(p.Early))
		for _, f := range p.Early {
			b = block(u64(b, f.Seq), f.Payload)
		}
	}
	return b
}

func sealed(body []byte) []byte {
	return binary.BigEndian.AppendUint32(slices.Clone(body), crc32.Checksum(body, crc32.MakeTable(crc32.Castagnoli)))
}

// shown is a value as a text, in which an empty list is the same as none.
func shown(v any) string { return fmt.Sprintf("%+v", v) }

func brief(v any) string {
	text := shown(v)
	return text[:min(len(text), 600)]
}

// small is the configuration of the chapter's examples.
func small() api.Config {
	return api.Config{Hosts: 2, Clients: 2, Pairs: 2, Bounds: 3, Queue: 4, Window: 2, Group: 1, Keep: 1, MTU: 64, Net: 1, Patience: 1, Tries: 1}
}

// wide is a configuration with plenty of everything.
func wide() api.Config {
	c := small()
	c.Hosts, c.Clients, c.Pairs, c.Bounds = 4, 3, 1000, 200
	return c
}

func get(seq, key uint64) api.Message { return api.Message{Kind: api.KGet, Seq: seq, Key: key} }

func set(seq, key uint64, value string) api.Message {
	return api.Message{Kind: api.KSet, Seq: seq, Key: key, Value: []byte(value)}
}

func del(seq, key uint64) api.Message { return api.Message{Kind: api.KDelete, Seq: seq, Key: key} }

// cas expects a value.
func cas(seq, key uint64, old, value string) api.Message {
	return api.Message{Kind: api.KCas, Seq: seq, Key: key, Has: true, Old: []byte(old), Value: []byte(value)}
}

// fill expects none.
func fill(seq, key uint64, value string) api.Message {
	return api.Message{Kind: api.KCas, Seq: seq, Key: key, Value: []byte(value)}
}

func scan(seq, lo, hi uint64, limit uint8) api.Message {
	return api.Message{Kind: api.KScan, Seq: seq, Key: lo, Hi: hi, Limit: limit}
}

func shard(lo, hi uint64, to api.Addr, grant, bounds uint32) api.Message {
	return api.Message{Kind: api.KShard, Seq: 5, Key: lo, Hi: hi, Host: to, Grant: grant, Bounds: bounds}
}

func data(seq uint64, payload []byte) api.Message {
	return api.Message{Kind: api.KData, Seq: seq, Payload: payload}
}

func ack(seq, mask uint64) api.Message { return api.Message{Kind: api.KAck, Seq: seq, Mask: mask} }

func done(seq uint64, status api.Status) api.Message {
	return api.Message{Kind: api.KDone, Seq: seq, Status: status}
}

func reply(m api.Message, status api.Status) api.Message {
	return api.Message{Kind: api.KReply, Seq: m.Seq, Of: m.Kind, Status: status}
}

func redirect(seq uint64, g api.Segment) api.Message {
	return api.Message{Kind: api.KRedirect, Seq: seq, Key: g.Lo, Hi: g.Hi, Host: g.Host}
}

func delegation(lo, hi uint64, grant, bounds uint32, pairs []api.Pair, sessions []api.Session) []byte {
	b, e := wire.Marshal(api.Message{Kind: api.KDelegate, Key: lo, Hi: hi, Grant: grant, Bounds: bounds, Pairs: pairs, Sessions: sessions})
	if e != api.OK {
		panic(e)
	}
	return b
}

// plain is a delegation of a range and nothing else.
func plain(lo, hi uint64) []byte { return delegation(lo, hi, 0, 0, nil, nil) }

func seg(lo, hi uint64, host api.Addr) api.Segment { return api.Segment{Lo: lo, Hi: hi, Host: host} }

func pair(key uint64, value string) api.Pair { return api.Pair{Key: key, Value: []byte(value)} }

func sess(client api.Addr, seq uint64, status api.Status) api.Session {
	return api.Session{Client: client, Seq: seq, Status: status}
}

func outs(to api.Addr, list ...api.Message) []api.Out {
	var all []api.Out
	for _, m := range list {
		all = append(all, api.Out{To: to, M: m})
	}
	return all
}

// comb is a table of n segments of ten keys, in turn of two hosts.
func comb(n int, first, second api.Addr) []api.Segment {
	var list []api.Segment
	for i := range n {
		host := first
		if i%2 == 1 {
			host = second
		}
		list = append(list, seg(uint64(i)*10, uint64(i)*10+9, host))
	}
	list[n-1].Hi = top
	return list
}

func manyPairs(from uint64, n int) []api.Pair {
	var list []api.Pair
	for i := range n {
		list = append(list, pair(from+uint64(i), "v"))
	}
	return list
}

// start is the state of a host at the start.
func start(c api.Config, self api.Addr) api.HostState {
	return api.HostState{Self: self, Table: []api.Segment{seg(0, top, 0)}, Free: c.Pairs, Spare: c.Bounds, End: api.EndState{Peers: make([]api.PeerState, c.Hosts)}}
}

func newCore(t *testing.T, c api.Config, self api.Addr) *core.Core {
	t.Helper()
	n, e := core.New(c, self)
	if n == nil || e != api.OK {
		t.Fatalf("New(%+v, %d): %d", c, self, e)
	}
	return n
}

func loadCore(t *testing.T, c api.Config, s api.HostState) *core.Core {
	t.Helper()
	n, e := core.Load(c, s)
	if n == nil || e != api.OK {
		t.Fatalf("Load(%+v, %s): %d", c, brief(s), e)
	}
	return n
}

func isErr(t *testing.T, got, want api.Errno) {
	t.Helper()
	if got != want {
		t.Errorf("%d; want %d", got, want)
	}
}

// isApply wants an answer, and that changed says whether the state differs.
func isApply(t *testing.T, n *core.Core, from api.Addr, m api.Message, changed bool, want ...api.Out) {
	t.Helper()
	before := shown(n.State())
	got, did, e := n.Apply(from, m)
	if shown(got) != shown(want) || did != changed || e != api.OK {
		t.Errorf("Apply(%d, %s): %s, %v, %d; want %s, %v", from, brief(m), brief(got), did, e, brief(want), changed)
	}
	if differs := shown(n.State()) != before; differs != changed {
		t.Errorf("Apply(%d, %s): the state differs: %v", from, brief(m), differs)
	}
}

// isTold wants one reply with a status.
func isTold(t *testing.T, n *core.Core, from api.Addr, m api.Message, status api.Status, changed bool) {
	t.Helper()
	isApply(t, n, from, m, changed, outs(from, reply(m, status))...)
}

// isDone wants a Shard's status, and nothing sent or changed beside it.
func isDone(t *testing.T, n *core.Core, m api.Message, status api.Status) {
	t.Helper()
	isApply(t, n, api.Admin, m, false, outs(api.Admin, done(m.Seq, status))...)
}

func isRefused(t *testing.T, n *core.Core, from api.Addr, m api.Message, want api.Errno) {
	t.Helper()
	before := shown(n.State())
	if got, did, e := n.Apply(from, m); len(got) != 0 || did || e != want {
		t.Errorf("Apply(%d, %s): %s, %v, %d; want %d", from, brief(m), brief(got), did, e, want)
	}
	if shown(n.State()) != before {
		t.Errorf("Apply(%d, %s): refused, but the state differs", from, brief(m))
	}
}

func isState(t *testing.T, n *core.Core, want api.HostState) {
	t.Helper()
	if got := n.State(); shown(got) != shown(want) {
		t.Errorf("State: %s; want %s", brief(got), brief(want))
	}
}

// must applies what has to be taken.
func must(t *testing.T, n *core.Core, from api.Addr, m api.Message) []api.Out {
	t.Helper()
	got, _, e := n.Apply(from, m)
	if e != api.OK {
		t.Fatalf("Apply(%d, %s): %d", from, brief(m), e)
	}
	return got
}

// room is where a list lies, spare room included.
type room struct{ first, behind uintptr }

func roomOf[T any](list []T) []room {
	var one T
	if cap(list) == 0 {
		return nil
	}
	first := uintptr(unsafe.Pointer(unsafe.SliceData(list)))
	return []room{{first, first + uintptr(cap(list))*unsafe.Sizeof(one)}}
}

func roomsOfPairs(list []api.Pair) []room {
	rooms := roomOf(list)
	for _, p := range list {
		rooms = append(rooms, roomOf(p.Value)...)
	}
	return rooms
}

func roomsOfMessage(m api.Message) []room {
	rooms := append(roomOf(m.Value), roomOf(m.Old)...)
	rooms = append(rooms, roomsOfPairs(m.Pairs)...)
	rooms = append(rooms, roomOf(m.Sessions)...)
	return append(rooms, roomOf(m.Payload)...)
}

func roomsOfOuts(list []api.Out) []room {
	rooms := roomOf(list)
	for _, o := range list {
		rooms = append(rooms, roomsOfMessage(o.M)...)
	}
	return rooms
}

func roomsOfState(s api.HostState) []room {
	rooms := append(roomOf(s.Table), roomsOfPairs(s.Pairs)...)
	rooms = append(rooms, roomOf(s.Sessions)...)
	rooms = append(rooms, roomOf(s.End.Peers)...)
	for _, p := range s.End.Peers {
		rooms = append(rooms, roomOf(p.Queue)...)
		rooms = append(rooms, roomOf(p.Early)...)
		for _, payload := range p.Queue {
			rooms = append(rooms, roomOf(payload)...)
		}
		for _, f := range p.Early {
			rooms = append(rooms, roomOf(f.Payload)...)
		}
	}
	return rooms
}

func apart(rooms []room) bool {
	slices.SortFunc(rooms, func(a, b room) int { return int(a.first) - int(b.first) })
	for i := 1; i < len(rooms); i++ {
		if rooms[i-1].behind > rooms[i].first {
			return false
		}
	}
	return true
}

// spoil writes over a list of bytes and its spare room.
func spoil(b []byte) {
	b = b[:cap(b)]
	for i := range b {
		b[i] ^= 0x5a
	}
}

func spoilPairs(list []api.Pair) {
	for i, p := range list {
		spoil(p.Value)
		list[i] = pair(99, "spoilt")
	}
}

func spoilMessage(m api.Message) {
	spoil(m.Value)
	spoil(m.Old)
	spoil(m.Payload)
	spoilPairs(m.Pairs)
	for i := range m.Sessions {
		m.Sessions[i] = sess(99, 99, 99)
	}
}

func spoilOuts(list []api.Out) {
	for i, o := range list {
		spoilMessage(o.M)
		list[i] = api.Out{To: 99}
	}
}

func spoilState(s api.HostState) {
	for i := range s.Table {
		s.Table[i] = seg(9, 8, 99)
	}
	spoilPairs(s.Pairs)
	for i := range s.Sessions {
		s.Sessions[i] = sess(99, 99, 99)
	}
	for h, p := range s.End.Peers {
		for i, payload := range p.Queue {
			spoil(payload)
			p.Queue[i] = nil
		}
		for i, f := range p.Early {
			spoil(f.Payload)
			p.Early[i] = api.Frame{Seq: 99}
		}
		s.End.Peers[h] = api.PeerState{Sent: 99}
	}
}

// copyState is a state in memory of its own.
func copyState(s api.HostState) api.HostState {
	s.Table, s.Pairs, s.Sessions = slices.Clone(s.Table), slices.Clone(s.Pairs), slices.Clone(s.Sessions)
	for i, p := range s.Pairs {
		s.Pairs[i].Value = slices.Clone(p.Value)
	}
	s.End.Peers = slices.Clone(s.End.Peers)
	for h := range s.End.Peers {
		p := &s.End.Peers[h]
		p.Queue, p.Early = slices.Clone(p.Queue), slices.Clone(p.Early)
		for i, payload := range p.Queue {
			p.Queue[i] = slices.Clone(payload)
		}
		for i, f := range p.Early {
			p.Early[i].Payload = slices.Clone(f.Payload)
		}
	}
	return s
}
