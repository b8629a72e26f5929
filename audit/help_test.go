package audit_test

import (
	"bytes"
	"fmt"
	"math/big"
	"math/rand"
	"reflect"
	"slices"
	"testing"
	"time"
	"unsafe"

	"shard/api"
	"shard/audit"
	"shard/wire"
)

const (
	top     uint64 = 1<<64 - 1
	farAway        = int(^uint(0) >> 1)
)

// What follows says the chapter's rules once more, in other words than the package: keys are asked one by one, and numbers that may be above all of 64 bits are big ones.

func whole(x uint64) *big.Int { return new(big.Int).SetUint64(x) }

func plus(x uint64, n int64) *big.Int { return new(big.Int).Add(whole(x), big.NewInt(n)) }

func docConfigMayBe(c api.Config) bool {
	within := func(x, least, most int) bool { return least <= x && x <= most }
	return within(c.Hosts, 1, 16) && within(c.Clients, 0, 16) && within(c.Pairs, 0, 1024) && within(c.Bounds, 0, 256) &&
		within(c.Queue, 1, 16) && within(c.Window, 1, c.Queue) && within(c.Group, 1, 64) && within(c.Keep, 1, 1024) &&
		within(c.MTU, 64, 1024) && within(c.Net, 1, 4096) && within(c.Patience, 1, 64) && within(c.Tries, 1, 64)
}

func docTableMayBe(segs []api.Segment, hosts int) bool {
	free, ended := uint64(0), false
	for i, s := range segs {
		if ended || s.Lo != free || s.Lo > s.Hi || int(s.Host) >= hosts || i > 0 && segs[i-1].Host == s.Host {
			return false
		}
		free, ended = s.Hi+1, s.Hi == top
	}
	return ended && len(segs) <= 8192
}

func docPairsMayBe(pairs []api.Pair) bool {
	for i := range pairs {
		if i > 0 && pairs[i-1].Key >= pairs[i].Key || len(pairs[i].Value) > 64 {
			return false
		}
	}
	return len(pairs) <= 32768
}

func docPayloadMayBe(payload []byte) bool { return len(payload) >= 1 && len(payload) <= 3072 }

func docPeerMayBe(p api.PeerState, queue, window int) bool {
	if plus(p.Acked, int64(len(p.Queue))).Cmp(whole(p.Sent)) != 0 || len(p.Queue) > queue {
		return false
	}
	for bit := range 64 {
		if p.Mask>>bit&1 == 1 && plus(p.Acked, int64(bit)+2).Cmp(whole(p.Sent)) > 0 {
			return false
		}
	}
	for _, payload := range p.Queue {
		if !docPayloadMayBe(payload) {
			return false
		}
	}
	last := plus(p.Delivered, 1)
	for _, f := range p.Early {
		if whole(f.Seq).Cmp(last) <= 0 || whole(f.Seq).Cmp(plus(p.Delivered, int64(window))) > 0 || !docPayloadMayBe(f.Payload) {
			return false
		}
		last = whole(f.Seq)
	}
	return true
}

func docEndMayBe(s api.HostState, c api.Config) bool {
	if len(s.End.Peers) != c.Hosts {
		return false
	}
	for h, p := range s.End.Peers {
		own := h == int(s.Self)
		if own && (p.Sent > 0 || p.Acked > 0 || len(p.Queue) > 0 || p.Mask > 0 || p.Delivered > 0 || len(p.Early) > 0) {
			return false
		}
		if !docPeerMayBe(p, c.Queue, c.Window) {
			return false
		}
	}
	return true
}

func docMayBe(p api.Picture) bool {
	if !docConfigMayBe(p.Config) || len(p.Hosts) != p.Config.Hosts {
		return false
	}
	for h, s := range p.Hosts {
		for _, credits := range []int{s.Free, s.Spare} {
			if credits < -2147483648 || credits > 2147483648 {
				return false
			}
		}
		if int(s.Self) != h || !docTableMayBe(s.Table, p.Config.Hosts) || !docPairsMayBe(s.Pairs) || !docEndMayBe(s, p.Config) {
			return false
		}
	}
	return true
}

// docLive goes through the numbers that a host has given, and asks of each whether it waits and has not come.
func docLive(p api.Picture) []api.Flight {
	var live []api.Flight
	for a := range p.Hosts {
		for b := range p.Hosts {
			out, in := p.Hosts[a].End.Peers[b], p.Hosts[b].End.Peers[a]
			for i := range out.Queue {
				number := plus(out.Acked, int64(i)+1)
				if number.Cmp(whole(in.Delivered)) <= 0 {
					continue
				}
				f := api.Flight{From: api.Addr(a), To: api.Addr(b), Seq: number.Uint64()}
				if m, _, e := wire.Parse(out.Queue[i]); e == api.OK && m.Kind == api.KDelegate {
					f.M = m
				}
				live = append(live, f)
			}
		}
	}
	return live
}

func docOwns(s api.HostState, key uint64) bool {
	for _, g := range s.Table {
		if g.Lo <= key && key <= g.Hi {
			return g.Host == s.Self
		}
	}
	return false
}

// docClaims tells the claims on one key.
func docClaims(p api.Picture, live []api.Flight, key uint64) ([]api.Addr, []int) {
	var owners []api.Addr
	var numbers []int
	for h, s := range p.Hosts {
		if docOwns(s, key) {
			owners = append(owners, api.Addr(h))
		}
	}
	for n, f := range live {
		if f.M.Kind == api.KDelegate && f.M.Key <= key && key <= f.M.Hi {
			numbers = append(numbers, n)
		}
	}
	return owners, numbers
}

// docOwners asks for the claims on every key at which they can be others than on the one ahead of it.
func docOwners(p api.Picture) []api.Hold {
	live := docLive(p)
	begins := []uint64{0}
	for _, s := range p.Hosts {
		for _, g := range s.Table {
			begins = append(begins, g.Lo)
		}
	}
	for _, f := range live {
		begins = append(begins, f.M.Key, f.M.Hi+1)
	}
	slices.Sort(begins)
	begins = slices.Compact(begins)
	var holds []api.Hold
	for i, lo := range begins {
		hi := top
		if i+1 < len(begins) {
			hi = begins[i+1] - 1
		}
		owners, numbers := docClaims(p, live, lo)
		if n := len(holds) - 1; n >= 0 && slices.Equal(holds[n].Hosts, owners) && slices.Equal(holds[n].Flights, numbers) {
			holds[n].Hi = hi
			continue
		}
		holds = append(holds, api.Hold{Lo: lo, Hi: hi, Hosts: owners, Flights: numbers})
	}
	return holds
}

func docCredits(p api.Picture) (int, int) {
	pairs, bounds := 0, 0
	for _, s := range p.Hosts {
		pairs += s.Free
		pairs += len(s.Pairs)
		bounds += s.Spare
		bounds += len(s.Table)
		bounds--
	}
	for _, f := range docLive(p) {
		pairs += int(f.M.Grant)
		pairs += len(f.M.Pairs)
		if f.M.Kind == api.KDelegate {
			bounds += 2
		}
		bounds += int(f.M.Bounds)
	}
	return pairs, bounds
}

// docUnion gathers the pairs by key, in the order in which those of one key shall stand.
func docUnion(p api.Picture) []api.Pair {
	byKey := map[uint64][]api.Pair{}
	var keys []uint64
	add := func(x api.Pair) {
		if len(byKey[x.Key]) == 0 {
			keys = append(keys, x.Key)
		}
		byKey[x.Key] = append(byKey[x.Key], x)
	}
	for _, s := range p.Hosts {
		for _, x := range s.Pairs {
			if docOwns(s, x.Key) {
				add(x)
			}
		}
	}
	for _, f := range docLive(p) {
		for _, x := range f.M.Pairs {
			add(x)
		}
	}
	slices.Sort(keys)
	var union []api.Pair
	for _, key := range keys {
		union = append(union, byKey[key]...)
	}
	return union
}

func docDigest(pairs []api.Pair) uint64 {
	var all []byte
	for _, x := range pairs {
		for shift := 56; shift >= 0; shift -= 8 {
			all = append(all, byte(x.Key>>shift))
		}
		all = append(all, byte(len(x.Value)%65536/256), byte(len(x.Value)%256))
		all = append(all, x.Value...)
	}
	h := uint64(0xcbf29ce484222325)
	for _, b := range all {
		h = (h ^ uint64(b)) * 0x100000001b3
	}
	return h
}

func docCheck(p api.Picture) []api.Finding {
	var found []api.Finding
	say := func(kind api.FaultKind, lo, hi uint64, host api.Addr) {
		found = append(found, api.Finding{Kind: kind, Lo: lo, Hi: hi, Host: host})
	}
	for _, h := range docOwners(p) {
		if claims := len(h.Hosts) + len(h.Flights); claims == 0 {
			say(api.FaultNone, h.Lo, h.Hi, 255)
		} else if claims > 1 {
			say(api.FaultTwo, h.Lo, h.Hi, 255)
		}
	}
	for h, s := range p.Hosts {
		for _, x := range s.Pairs {
			if !docOwns(s, x.Key) {
				say(api.FaultStray, x.Key, x.Key, api.Addr(h))
			}
		}
		if min(s.Free, s.Spare) < 0 {
			say(api.FaultBelow, 0, 0, api.Addr(h))
		}
	}
	pairs, bounds := docCredits(p)
	if pairs != p.Config.Hosts*p.Config.Pairs {
		say(api.FaultPairs, 0, 0, 255)
	}
	if bounds != p.Config.Hosts*p.Config.Bounds {
		say(api.FaultBounds, 0, 0, 255)
	}
	for _, f := range docLive(p) {
		if f.M.Kind != api.KDelegate {
			say(api.FaultPayload, f.Seq, f.Seq, f.From)
		}
	}
	return found
}

func docSame(a, b api.Picture) bool {
	return docMayBe(a) && docMayBe(b) && shown(docUnion(a)) == shown(docUnion(b))
}

// shown tells all of a thing as text; an empty list, nil or not, is the same.
func shown(x any) string { return fmt.Sprintf("%v", x) }

func isSame(t *testing.T, what string, got, want any) {
	t.Helper()
	if !reflect.DeepEqual(got, want) {
		t.Fatalf("%s: %v, want %v", what, got, want)
	}
}

// isShown holds two things against each other; an empty list, nil or not, is the same.
func isShown(t *testing.T, what string, got any, e api.Errno, want any, err api.Errno) {
	t.Helper()
	if e != err || shown(got) != shown(want) {
		t.Fatalf("%s: %v, %d, want %v, %d", what, got, e, want, err)
	}
}

// someWorkers are numbers of workers that a call may be asked to use.
var someWorkers = []int{1, 2, 3, 16, 17, 64}

// isAsTheChapterSays holds all answers about a picture against the chapter's.
func isAsTheChapterSays(t *testing.T, p api.Picture) {
	t.Helper()
	if !docMayBe(p) {
		isRefused(t, p)
		return
	}
	isSame(t, "CheckPicture", audit.CheckPicture(p), api.OK)
	live, e := audit.Live(p)
	isShown(t, "Live", live, e, docLive(p), api.OK)
	holds, e := audit.Owners(p)
	isShown(t, "Owners", holds, e, docOwners(p), api.OK)
	pairs, bounds, e := audit.Credits(p)
	wantPairs, wantBounds := docCredits(p)
	isSame(t, "Credits", []any{pairs, bounds, e}, []any{wantPairs, wantBounds, api.OK})
	union, e := audit.Union(p)
	isShown(t, "Union", union, e, docUnion(p), api.OK)
	isSame(t, "Digest", audit.Digest(union), docDigest(union))
	var sums []uint64
	for _, s := range p.Hosts {
		sums = append(sums, docDigest(s.Pairs))
	}
	found := docCheck(p)
	for _, workers := range someWorkers {
		got, e := audit.Digests(p, workers)
		isShown(t, "Digests", got, e, sums, api.OK)
		faults, e := audit.Check(p, workers)
		isShown(t, "Check", faults, e, found, api.OK)
	}
	isSame(t, "Same as itself", audit.Same(p, copied(p)), true)
}

// isRefused wants that every call refuses a picture.
func isRefused(t *testing.T, p api.Picture) {
	t.Helper()
	isSame(t, "CheckPicture", audit.CheckPicture(p), api.ErrPicture)
	live, e := audit.Live(p)
	isShown(t, "Live", live, e, []api.Flight(nil), api.ErrPicture)
	holds, e := audit.Owners(p)
	isShown(t, "Owners", holds, e, []api.Hold(nil), api.ErrPicture)
	pairs, bounds, e := audit.Credits(p)
	isSame(t, "Credits", []any{pairs, bounds, e}, []any{0, 0, api.ErrPicture})
	union, e := audit.Union(p)
	isShown(t, "Union", union, e, []api.Pair(nil), api.ErrPicture)
	for _, workers := range append([]int{-1, 0, 65}, someWorkers...) {
		want := api.ErrPicture
		if workers < 1 || workers > 64 {
			want = api.ErrWorkers
		}
		sums, e := audit.Digests(p, workers)
		isShown(t, "Digests", sums, e, []uint64(nil), want)
		faults, e := audit.Check(p, workers)
		isShown(t, "Check", faults, e, []api.Finding(nil), want)
	}
	isSame(t, "Same", audit.Same(p, p) || audit.Same(p, started(2)) || audit.Same(started(2), p), false)
}

// configOf gives a small configuration: 2 pair credits and 3 boundary credits a host, queues and windows of 2.
func configOf(hosts int) api.Config {
	return api.Config{Hosts: hosts, Clients: 1, Pairs: 2, Bounds: 3, Queue: 2, Window: 2, Group: 1, Keep: 1, MTU: 64, Net: 1, Patience: 1, Tries: 1}
}

// started gives the picture of hosts at the start.
func started(hosts int) api.Picture {
	p := api.Picture{Config: configOf(hosts)}
	for h := range hosts {
		p.Hosts = append(p.Hosts, api.HostState{
			Self:  api.Addr(h),
			Table: []api.Segment{seg(0, top, 0)},
			Free:  2,
			Spare: 3,
			End:   api.EndState{Peers: make([]api.PeerState, hosts)},
		})
	}
	return p
}

// handed is example 2: host 0 has handed 0 to 7 to host 1, with the pair 7; nothing has come yet.
func handed(t *testing.T) api.Picture {
	t.Helper()
	p := started(2)
	p.Hosts[0].Table = []api.Segment{seg(0, 7, 1), seg(8, top, 0)}
	p.Hosts[0].Free, p.Hosts[0].Spare = 1, 0
	p.Hosts[0].End.Peers[1] = api.PeerState{Sent: 1, Queue: [][]byte{packet(t, delegate(0, 7, pair(7, "x")))}}
	return p
}

// installed is example 3: the delegation has come, but host 0 does not know.
func installed(t *testing.T) api.Picture {
	t.Helper()
	p := handed(t)
	p.Hosts[1].Table = []api.Segment{seg(0, 7, 1), seg(8, top, 0)}
	p.Hosts[1].Pairs = []api.Pair{pair(7, "x")}
	p.Hosts[1].Spare = 4
	p.Hosts[1].End.Peers[0].Delivered = 1
	return p
}

func seg(lo, hi uint64, host api.Addr) api.Segment { return api.Segment{Lo: lo, Hi: hi, Host: host} }

func pair(key uint64, value string) api.Pair { return api.Pair{Key: key, Value: []byte(value)} }

func delegate(lo, hi uint64, pairs ...api.Pair) api.Message {
	return api.Message{Kind: api.KDelegate, Key: lo, Hi: hi, Pairs: pairs}
}

func packet(t *testing.T, m api.Message) []byte {
	t.Helper()
	b, e := wire.Marshal(m)
	if e != api.OK {
		t.Fatalf("Marshal(%+v): %d", m, e)
	}
	return b
}

// queued lets host a hold these payloads for host b, with the numbers from acked + 1 on.
func queued(p *api.Picture, a, b int, acked uint64, payloads ...[]byte) {
	q := &p.Hosts[a].End.Peers[b]
	q.Acked, q.Sent, q.Queue = acked, acked+uint64(len(payloads)), payloads
}

// copied gives a picture that shares no memory with another.
func copied(p api.Picture) api.Picture {
	out := api.Picture{Config: p.Config, Hosts: slices.Clone(p.Hosts)}
	for h := range out.Hosts {
		s := &out.Hosts[h]
		s.Table, s.Sessions, s.Pairs = slices.Clone(s.Table), slices.Clone(s.Sessions), slices.Clone(s.Pairs)
		for i := range s.Pairs {
			s.Pairs[i].Value = bytes.Clone(s.Pairs[i].Value)
		}
		s.End.Peers = slices.Clone(s.End.Peers)
		for i := range s.End.Peers {
			q := &s.End.Peers[i]
			q.Queue, q.Early = slices.Clone(q.Queue), slices.Clone(q.Early)
			for k := range q.Queue {
				q.Queue[k] = bytes.Clone(q.Queue[k])
			}
			for k := range q.Early {
				q.Early[k].Payload = bytes.Clone(q.Early[k].Payload)
			}
		}
	}
	return out
}

// inTime wants that f ends before long.
func inTime(t *testing.T, f func()) {
	t.Helper()
	ended := make(chan struct{})
	go func() {
		defer close(ended)
		f()
	}()
	select {
	case <-ended:
	case <-time.After(2 * time.Minute):
		t.Fatal("still at work")
	}
}

// dice makes things at random.
type dice struct{ *rand.Rand }

func diceOf(seed int) dice { return dice{rand.New(rand.NewSource(int64(seed)))} }

// key gives a key, often one of few, near either end or far from both.
func (d dice) key() uint64 {
	switch near := uint64(d.Intn(12)); d.Intn(5) {
	case 0, 1:
		return near
	case 2, 3:
		return top - near
	}
	return d.Uint64()
}

func (d dice) keys(n int) []uint64 {
	var out []uint64
	for range n {
		out = append(out, d.key())
	}
	slices.Sort(out)
	return slices.Compact(out)
}

func (d dice) value() []byte {
	b := make([]byte, []int{0, 1, 2, 64}[d.Intn(4)])
	d.Read(b)
	return b
}

func (d dice) pairs(n int) []api.Pair {
	var out []api.Pair
	for _, key := range d.keys(n) {
		out = append(out, api.Pair{Key: key, Value: d.value()})
	}
	return out
}

// table gives a table of some hosts.
func (d dice) table(hosts int) []api.Segment {
	var out []api.Segment
	lo := uint64(0)
	for _, hi := range append(d.keys(d.Intn(7)), top) {
		if hi < lo || lo == 0 && len(out) > 0 {
			continue
		}
		host := api.Addr(d.Intn(hosts))
		if n := len(out) - 1; n >= 0 && out[n].Host == host {
			out[n].Hi = hi
		} else {
			out = append(out, seg(lo, hi, host))
		}
		lo = hi + 1
	}
	return out
}

func (d dice) credits() int {
	return []int{0, 1, -1, 2, 5, 1 << 31, -1 << 31, d.Intn(100) - 50}[d.Intn(8)]
}

// payload gives a delegation, mostly; else another message, or no message.
func (d dice) payload(t *testing.T) []byte {
	t.Helper()
	switch d.Intn(8) {
	case 0:
		return []byte{byte(d.Intn(256))}
	case 1:
		return packet(t, api.Message{Kind: api.KGet, Seq: 1 + d.Uint64()%9, Key: d.key()})
	case 2:
		b := packet(t, delegate(0, 9, pair(5, "v")))
		b[d.Intn(len(b))] ^= 1 << d.Intn(8)
		return b
	}
	ends := []uint64{d.key(), d.key()}
	slices.Sort(ends)
	inside := slices.DeleteFunc(d.pairs(d.Intn(6)), func(x api.Pair) bool { return x.Key < ends[0] || x.Key > ends[1] })
	m := delegate(ends[0], ends[1], inside...)
	m.Grant, m.Bounds = uint32(d.Intn(3)*d.Intn(32768)), uint32(d.Intn(3)*d.Intn(32768))
	if d.Intn(2) == 0 {
		m.Sessions = []api.Session{{Client: 16 + api.Addr(d.Intn(16)), Seq: 1 + d.Uint64()%9, Status: api.StOK}}
	}
	return packet(t, m)
}

// number gives a number of a payload, small or near the greatest one.
func (d dice) number() uint64 {
	if d.Intn(4) == 0 {
		return top - uint64(d.Intn(6))
	}
	return uint64(d.Intn(6))
}

// peer gives what a host may hold for another one.
func (d dice) peer(t *testing.T, c api.Config) api.PeerState {
	t.Helper()
	q := api.PeerState{Acked: d.number(), Delivered: d.number()}
	q.Sent = q.Acked
	for range d.Intn(c.Queue + 1) {
		if q.Sent < top {
			q.Sent++
			q.Queue = append(q.Queue, d.payload(t))
		}
	}
	if len(q.Queue) > 1 {
		q.Mask = d.Uint64() % (1 << (len(q.Queue) - 1))
	}
	for ahead := 2; ahead <= c.Window; ahead++ {
		if d.Intn(3) == 0 && top-q.Delivered >= uint64(ahead) {
			q.Early = append(q.Early, api.Frame{Seq: q.Delivered + uint64(ahead), Payload: d.payload(t)})
		}
	}
	return q
}

// picture gives a picture that may be, of hosts that are mostly at odds.
func (d dice) picture(t *testing.T) api.Picture {
	t.Helper()
	n := 1 + d.Intn(4)
	if d.Intn(8) == 0 {
		n = 1 + d.Intn(16)
	}
	p := started(n)
	p.Config.Queue = 1 + d.Intn(4)
	p.Config.Window = 1 + d.Intn(p.Config.Queue)
	p.Config.Pairs, p.Config.Bounds = d.Intn(4), d.Intn(4)
	for h := range p.Hosts {
		s := &p.Hosts[h]
		s.Table, s.Pairs = d.table(n), d.pairs(d.Intn(6))
		if d.Intn(2) == 0 {
			s.Free, s.Spare = d.credits(), d.credits()
		}
		for b := range s.End.Peers {
			if b != h && (n < 5 || d.Intn(n) == 0) {
				s.End.Peers[b] = d.peer(t, p.Config)
			}
		}
	}
	return p
}

// room is the memory of a list, spare room included.
type room struct{ first, behind uintptr }

func roomOf[T any](list []T) []room {
	var one T
	if cap(list) == 0 {
		return nil
	}
	first := uintptr(unsafe.Pointer(unsafe.SliceData(list)))
	return []room{{first, first + uintptr(cap(list))*unsafe.Sizeof(one)}}
}

func apart(rooms []room) bool {
	slices.SortFunc(rooms, func(a, b room) int { return int(a.first) - int(b.first) })
	for i := 1; i < len(rooms); i++ {
		if rooms[i-1].behind > rooms[i].first {
			return false
		}
	}
	return true
}
