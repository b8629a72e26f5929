package xonce_test

import (
	"bytes"
	"fmt"
	"maps"
	"math/bits"
	"slices"
	"testing"
	"unsafe"

	"shard/api"
	"shard/xonce"
)

const top uint64 = 1<<64 - 1

// The limits that the document names.
const (
	mostHosts = 16
	mostQueue = 16
	longest   = 3072
)

// docEnd says the chapter's rules once more, in other words than the package: payloads are strings found by their numbers, and what a mask or a window names is a set of numbers.
type docEnd struct {
	self, hosts, queue, window int
	peers                      []docPeer
}

type docPeer struct {
	sent, acked uint64
	waiting     map[uint64]string
	told        map[uint64]bool
	delivered   uint64
	early       map[uint64]string
}

// plus adds as whole numbers do: false, if the sum is above the greatest number.
func plus(a uint64, b int) (uint64, bool) {
	sum, over := bits.Add64(a, uint64(b), 0)
	return sum, over == 0
}

// names gives the numbers that a mask names behind a number; false, if one of them is above a bound.
func names(seq, mask, bound uint64) (map[uint64]bool, bool) {
	set := map[uint64]bool{}
	for i := range 64 {
		if mask&(1<<i) == 0 {
			continue
		}
		n, fine := plus(seq, 2+i)
		if !fine || n > bound {
			return nil, false
		}
		set[n] = true
	}
	return set, true
}

// maskOf is the mask that names a set of numbers behind a number.
func maskOf[V any](seq uint64, set map[uint64]V) uint64 {
	mask := uint64(0)
	for i := range 64 {
		if n, fine := plus(seq, 2+i); fine {
			if _, named := set[n]; named {
				mask += 1 << i
			}
		}
	}
	return mask
}

func newDocEnd(self, hosts, queue, window int) (*docEnd, api.Errno) {
	switch {
	case hosts < 1, hosts > mostHosts, self >= hosts, queue < 1, queue > mostQueue, window < 1, window > queue:
		return nil, api.ErrArg
	}
	d := &docEnd{self, hosts, queue, window, make([]docPeer, hosts)}
	for h := range d.peers {
		d.peers[h] = docPeer{waiting: map[uint64]string{}, told: map[uint64]bool{}, early: map[uint64]string{}}
	}
	return d, api.OK
}

func loadDocEnd(self, hosts, queue, window int, s api.EndState) (*docEnd, api.Errno) {
	d, e := newDocEnd(self, hosts, queue, window)
	if e != api.OK {
		return nil, e
	}
	if len(s.Peers) != hosts || shown(s.Peers[self]) != shown(api.PeerState{}) {
		return nil, api.ErrXonceLoad
	}
	for h, told := range s.Peers {
		if !d.peers[h].load(told, queue, window) {
			return nil, api.ErrXonceLoad
		}
	}
	return d, api.OK
}

func (p *docPeer) load(s api.PeerState, queue, window int) bool {
	p.sent, p.acked, p.delivered = s.Sent, s.Acked, s.Delivered
	last, fine := plus(s.Acked, len(s.Queue))
	if !fine || last != s.Sent || len(s.Queue) > queue {
		return false
	}
	for i, payload := range s.Queue {
		if len(payload) == 0 || len(payload) > longest {
			return false
		}
		p.waiting[s.Acked+1+uint64(i)] = string(payload)
	}
	if p.told, fine = names(s.Acked, s.Mask, s.Sent); !fine {
		return false
	}
	for i, f := range s.Early {
		if i > 0 && s.Early[i-1].Seq >= f.Seq || !slices.Contains(p.soon(2, window), f.Seq) || len(f.Payload) == 0 || len(f.Payload) > longest {
			return false
		}
		p.early[f.Seq] = string(f.Payload)
	}
	return true
}

// soon gives the numbers that come so far behind the one last handed up.
func (p *docPeer) soon(first, last int) []uint64 {
	var list []uint64
	for i := first; i <= last; i++ {
		if n, fine := plus(p.delivered, i); fine {
			list = append(list, n)
		}
	}
	return list
}

// inWindow gives the numbers in the first window, rising.
func (p *docPeer) inWindow(window int) []uint64 {
	list := slices.Sorted(maps.Keys(p.waiting))
	return list[:min(len(list), window)]
}

func (p *docPeer) data(to int, n uint64) api.Out {
	return api.Out{To: api.Addr(to), M: data(n, p.waiting[n])}
}

func (d *docEnd) isPeer(h int) bool { return h != d.self && h < d.hosts }

func (d *docEnd) send(to int, payload []byte) ([]api.Out, api.Errno) {
	if !d.isPeer(to) {
		return nil, api.ErrXoncePeer
	}
	p := &d.peers[to]
	switch {
	case len(payload) == 0 || len(payload) > longest:
		return nil, api.ErrXonceLong
	case len(p.waiting) == d.queue:
		return nil, api.ErrXonceFull
	case p.sent == top:
		return nil, api.ErrXonceSpent
	}
	p.sent++
	p.waiting[p.sent] = string(payload)
	if slices.Contains(p.inWindow(d.window), p.sent) {
		return []api.Out{p.data(to, p.sent)}, api.OK
	}
	return nil, api.OK
}

func (d *docEnd) take(from int, m api.Message) (api.Taken, api.Errno) {
	if !d.isPeer(from) {
		return api.Taken{}, api.ErrXoncePeer
	}
	p := &d.peers[from]
	switch shown(m) {
	case shown(api.Message{Kind: api.KData, Seq: m.Seq, Payload: m.Payload}):
		return p.takeData(from, m, d.window)
	case shown(api.Message{Kind: api.KAck, Seq: m.Seq, Mask: m.Mask}):
		before := d.state()
		taken, e := p.takeAck(from, m, d.window)
		taken.Changed = shown(before) != shown(d.state())
		return taken, e
	}
	return api.Taken{}, api.ErrXonceKind
}

func (p *docPeer) takeData(from int, m api.Message, window int) (api.Taken, api.Errno) {
	if len(m.Payload) == 0 || len(m.Payload) > longest {
		return api.Taken{}, api.ErrXonceLong
	}
	old := m.Seq <= p.delivered
	if !old && !slices.Contains(p.soon(1, window), m.Seq) {
		return api.Taken{}, api.ErrXonceFar
	}
	var taken api.Taken
	if _, there := p.early[m.Seq]; !old && !there {
		taken.Changed = true
		p.early[m.Seq] = string(m.Payload)
	}
	for {
		next, fine := plus(p.delivered, 1)
		payload, there := p.early[next]
		if !fine || !there {
			break
		}
		delete(p.early, next)
		p.delivered = next
		taken.Ups = append(taken.Ups, api.Up{From: api.Addr(from), Seq: next, Body: []byte(payload)})
	}
	taken.Mails = []api.Out{{To: api.Addr(from), M: ack(p.delivered, maskOf(p.delivered, p.early))}}
	return taken, api.OK
}

func (p *docPeer) takeAck(from int, m api.Message, window int) (api.Taken, api.Errno) {
	told, fine := names(m.Seq, m.Mask, p.sent)
	if m.Seq > p.sent || !fine {
		return api.Taken{}, api.ErrXonceAck
	}
	before := p.inWindow(window)
	if m.Seq == p.acked {
		maps.Copy(p.told, told)
	}
	if m.Seq > p.acked {
		p.acked, p.told = m.Seq, told
		maps.DeleteFunc(p.waiting, func(n uint64, _ string) bool { return n <= m.Seq })
	}
	var taken api.Taken
	for _, n := range p.inWindow(window) {
		if !slices.Contains(before, n) {
			taken.Mails = append(taken.Mails, p.data(from, n))
		}
	}
	return taken, api.OK
}

func (d *docEnd) tick() []api.Out {
	var out []api.Out
	for h := range d.peers {
		p := &d.peers[h]
		for _, n := range p.inWindow(d.window) {
			if !p.told[n] {
				out = append(out, p.data(h, n))
			}
		}
	}
	return out
}

// room sends to an end like this one until it takes no more.
func (d *docEnd) room(to int) int {
	like, _ := loadDocEnd(d.self, d.hosts, d.queue, d.window, d.state())
	for n := 0; ; n++ {
		if _, e := like.send(to, []byte("x")); e != api.OK {
			return n
		}
	}
}

func (d *docEnd) calm() bool {
	return !slices.ContainsFunc(d.peers, func(p docPeer) bool { return len(p.waiting) > 0 })
}

func (d *docEnd) state() api.EndState {
	s := api.EndState{Peers: make([]api.PeerState, d.hosts)}
	for h, p := range d.peers {
		told := api.PeerState{Sent: p.sent, Acked: p.acked, Mask: maskOf(p.acked, p.told), Delivered: p.delivered}
		for _, n := range slices.Sorted(maps.Keys(p.waiting)) {
			told.Queue = append(told.Queue, []byte(p.waiting[n]))
		}
		for _, n := range slices.Sorted(maps.Keys(p.early)) {
			told.Early = append(told.Early, api.Frame{Seq: n, Payload: []byte(p.early[n])})
		}
		s.Peers[h] = told
	}
	return s
}

// shown is a value as a text, in which an empty list is the same as none.
func shown(v any) string { return fmt.Sprintf("%+v", v) }

func data(seq uint64, payload string) api.Message {
	return api.Message{Kind: api.KData, Seq: seq, Payload: []byte(payload)}
}

func ack(seq, mask uint64) api.Message { return api.Message{Kind: api.KAck, Seq: seq, Mask: mask} }

func out(to api.Addr, m api.Message) api.Out { return api.Out{To: to, M: m} }

func up(from api.Addr, seq uint64, body string) api.Up {
	return api.Up{From: from, Seq: seq, Body: []byte(body)}
}

func long(n int) []byte { return bytes.Repeat([]byte{'l'}, n) }

func newEnd(t *testing.T, self api.Addr, hosts, queue, window int) *xonce.End {
	t.Helper()
	e, x := xonce.New(self, hosts, queue, window)
	if e == nil || x != api.OK {
		t.Fatalf("New(%d, %d, %d, %d): %v, %d", self, hosts, queue, window, e, x)
	}
	return e
}

func loadEnd(t *testing.T, self api.Addr, hosts, queue, window int, s api.EndState) *xonce.End {
	t.Helper()
	e, x := xonce.Load(self, hosts, queue, window, s)
	if e == nil || x != api.OK {
		t.Fatalf("Load(%d, %d, %d, %d, %+v): %v, %d", self, hosts, queue, window, s, e, x)
	}
	return e
}

// loadPair makes an end of host 0 among two hosts, with the state of its only peer.
func loadPair(t *testing.T, queue, window int, p api.PeerState) *xonce.End {
	t.Helper()
	return loadEnd(t, 0, 2, queue, window, api.EndState{Peers: []api.PeerState{{}, p}})
}

func isErr(t *testing.T, got, want api.Errno) {
	t.Helper()
	if got != want {
		t.Errorf("%d; want %d", got, want)
	}
}

func isSend(t *testing.T, e *xonce.End, to api.Addr, payload string, want ...api.Out) {
	t.Helper()
	if got, x := e.Send(to, []byte(payload)); shown(got) != shown(want) || x != api.OK {
		t.Errorf("Send(%d, %.9q): %v, %d; want %v", to, payload, got, x, want)
	}
}

func isSendRefused(t *testing.T, e *xonce.End, to api.Addr, payload []byte, want api.Errno) {
	t.Helper()
	before := shown(e.State())
	if got, x := e.Send(to, payload); len(got) != 0 || x != want {
		t.Errorf("Send(%d, %.9q): %v, %d; want %d", to, payload, got, x, want)
	}
	if after := shown(e.State()); after != before {
		t.Errorf("Send(%d, %.9q) made %s of %s", to, payload, after, before)
	}
}

func isTake(t *testing.T, e *xonce.End, from api.Addr, m api.Message, changed bool, ups []api.Up, mails ...api.Out) {
	t.Helper()
	want := api.Taken{Ups: ups, Mails: mails, Changed: changed}
	if got, x := e.Take(from, m); shown(got) != shown(want) || x != api.OK {
		t.Errorf("Take(%d, %v): %+v, %d; want %+v", from, m, got, x, want)
	}
}

func isTakeRefused(t *testing.T, e *xonce.End, from api.Addr, m api.Message, want api.Errno) {
	t.Helper()
	before := shown(e.State())
	if got, x := e.Take(from, m); shown(got) != shown(api.Taken{}) || x != want {
		t.Errorf("Take(%d, %+v): %+v, %d; want %d", from, m, got, x, want)
	}
	if after := shown(e.State()); after != before {
		t.Errorf("Take(%d, %+v) made %s of %s", from, m, after, before)
	}
}

func isTick(t *testing.T, e *xonce.End, want ...api.Out) {
	t.Helper()
	before := shown(e.State())
	if got := e.Tick(); shown(got) != shown(want) {
		t.Errorf("Tick: %v; want %v", got, want)
	}
	if after := shown(e.State()); after != before {
		t.Errorf("Tick made %s of %s", after, before)
	}
}

func isRoom(t *testing.T, e *xonce.End, to api.Addr, want int) {
	t.Helper()
	if got := e.Room(to); got != want {
		t.Errorf("Room(%d): %d; want %d", to, got, want)
	}
}

func isCalm(t *testing.T, e *xonce.End, want bool) {
	t.Helper()
	if got := e.Calm(); got != want {
		t.Errorf("Calm: %v; want %v", got, want)
	}
}

func isState(t *testing.T, e *xonce.End, want ...api.PeerState) {
	t.Helper()
	if got := e.State(); shown(got) != shown(api.EndState{Peers: want}) {
		t.Errorf("State: %+v; want %+v", got, want)
	}
}

// isEnd holds all that an end tells of itself against the document's.
func isEnd(t *testing.T, e *xonce.End, want *docEnd) {
	t.Helper()
	state := shown(want.state())
	if got := shown(e.State()); got != state {
		t.Fatalf("State: %s; want %s", got, state)
	}
	if got := e.Tick(); shown(got) != shown(want.tick()) {
		t.Fatalf("Tick: %v; want %v", got, want.tick())
	}
	if got := e.Calm(); got != want.calm() {
		t.Fatalf("Calm: %v", got)
	}
	for _, to := range []int{0, 1, 2, want.hosts - 1, want.hosts, 255} {
		if got := e.Room(api.Addr(to)); got != want.room(to) {
			t.Fatalf("Room(%d): %d; want %d", to, got, want.room(to))
		}
	}
	if got := shown(e.State()); got != state {
		t.Fatalf("Tick, Calm or Room made %s of %s", got, state)
	}
}

// room is where a list lies, spare room included.
type room struct{ first, behind uintptr }

func roomOf[T any](list []T) []room {
	var one T
	if cap(list) == 0 {
		return nil
	}
	first := uintptr(unsafe.Pointer(unsafe.SliceData(list)))
	return []room{{first, first + uintptr(cap(list))*unsafe.Sizeof(one)}}
}

func roomsOfOuts(list []api.Out) []room {
	rooms := roomOf(list)
	for _, o := range list {
		rooms = append(rooms, roomOf(o.M.Payload)...)
	}
	return rooms
}

func roomsOfUps(list []api.Up) []room {
	rooms := roomOf(list)
	for _, u := range list {
		rooms = append(rooms, roomOf(u.Body)...)
	}
	return rooms
}

func roomsOfState(s api.EndState) []room {
	rooms := roomOf(s.Peers)
	for _, p := range s.Peers {
		rooms = append(rooms, roomOf(p.Queue)...)
		rooms = append(rooms, roomOf(p.Early)...)
		for _, payload := range p.Queue {
			rooms = append(rooms, roomOf(payload)...)
		}
		for _, f := range p.Early {
			rooms = append(rooms, roomOf(f.Payload)...)
		}
	}
	return rooms
}

func apart(rooms []room) bool {
	slices.SortFunc(rooms, func(a, b room) int { return int(a.first) - int(b.first) })
	for i := 1; i < len(rooms); i++ {
		if rooms[i-1].behind > rooms[i].first {
			return false
		}
	}
	return true
}

// spoil writes over a list of bytes and its spare room.
func spoil(b []byte) {
	b = b[:cap(b)]
	for i := range b {
		b[i] ^= 0x5a
	}
}

func spoilOuts(list []api.Out) {
	for i, o := range list {
		spoil(o.M.Payload)
		list[i] = out(99, data(99, "spoilt"))
	}
}

func spoilTaken(taken api.Taken) {
	spoilOuts(taken.Mails)
	for i, u := range taken.Ups {
		spoil(u.Body)
		taken.Ups[i] = up(99, 99, "spoilt")
	}
}

func spoilState(s api.EndState) {
	for h, p := range s.Peers {
		for i, payload := range p.Queue {
			spoil(payload)
			p.Queue[i] = nil
		}
		for i, f := range p.Early {
			spoil(f.Payload)
			p.Early[i] = api.Frame{Seq: 99}
		}
		s.Peers[h] = api.PeerState{Sent: 99}
	}
}
