package client_test

import (
	"fmt"
	"slices"
	"testing"
	"unsafe"

	"shard/api"
	"shard/client"
	"shard/wire"
)

const top uint64 = 1<<64 - 1

// The limits that the document names.
const (
	mostHosts    = 16
	mostPatience = 64
	mostTries    = 64
	mostHints    = 64
)

// docClient says the chapter's rules once more, in other words than the package: it keeps no counts, but a list of all sendings, and asks that.
type docClient struct {
	hosts, patience, tries int
	hints                  []api.Segment // each holds where none behind it does
	number                 uint64
	phase                  api.Phase
	request                api.Request
	sendings               []sending
	ticks                  int
	answer                 api.Message
	answerer               api.Addr
}

// sending is one sending of the request under way, and why it was.
type sending struct {
	to  api.Addr
	why reason
}

type reason int

const (
	begun reason = iota
	again
	turned
	redirected
)

func newDocClient(self api.Addr, hosts, patience, tries int) (*docClient, api.Errno) {
	switch {
	case self < 16, self > 31, hosts < 1, hosts > mostHosts, patience < 1, patience > mostPatience, tries < 1, tries > mostTries:
		return nil, api.ErrArg
	}
	return &docClient{hosts: hosts, patience: patience, tries: tries, hints: []api.Segment{{Lo: 0, Hi: top, Host: 0}}}, api.OK
}

// ownerIn tells whose a key is in a list of ranges, of which the later ones hold.
func ownerIn(list []api.Segment, key uint64) api.Addr {
	for _, s := range slices.Backward(list) {
		if s.Lo <= key && key <= s.Hi {
			return s.Host
		}
	}
	return api.NoOne
}

// joined gives the segments of a list of ranges, of which the later ones hold.
func joined(list []api.Segment) []api.Segment {
	begins := []uint64{0}
	for _, s := range list {
		begins = append(begins, s.Lo)
		if s.Hi < top {
			begins = append(begins, s.Hi+1)
		}
	}
	slices.Sort(begins)
	var out []api.Segment
	for _, lo := range slices.Compact(begins) {
		host := ownerIn(list, lo)
		if len(out) > 0 && out[len(out)-1].Host == host {
			continue
		}
		if len(out) > 0 {
			out[len(out)-1].Hi = lo - 1
		}
		out = append(out, api.Segment{Lo: lo, Hi: top, Host: host})
	}
	return out
}

func (d *docClient) aim(host api.Addr) api.Errno {
	switch {
	case d.phase == api.PhWaiting:
		return api.ErrBusy
	case int(host) >= d.hosts:
		return api.ErrArg
	}
	d.hints = []api.Segment{{Lo: 0, Hi: top, Host: host}}
	return api.OK
}

func (d *docClient) message() api.Message {
	r := d.request
	return api.Message{Kind: r.Kind, Seq: d.number, Key: r.Key, Hi: r.Hi, Value: r.Value, Old: r.Old, Has: r.Has, Limit: r.Limit}
}

func (d *docClient) send(to api.Addr, why reason) []api.Out {
	d.sendings = append(d.sendings, sending{to, why})
	d.ticks = 0
	return []api.Out{{To: to, M: d.message()}}
}

func (d *docClient) begin(r api.Request) ([]api.Out, api.Errno) {
	if d.phase == api.PhWaiting {
		return nil, api.ErrBusy
	}
	next := &docClient{number: d.number + 1, request: r}
	if !slices.Contains([]api.Kind{api.KGet, api.KSet, api.KDelete, api.KCas, api.KScan}, r.Kind) || wire.Check(next.message()) != api.OK {
		return nil, api.ErrRequest
	}
	r.Value, r.Old = slices.Clone(r.Value), slices.Clone(r.Old)
	d.number, d.request, d.phase, d.sendings = d.number+1, r, api.PhWaiting, nil
	d.answer, d.answerer = api.Message{}, 0
	return d.send(ownerIn(d.hints, r.Key), begun), api.OK
}

func (d *docClient) count(why ...reason) int {
	n := 0
	for _, s := range d.sendings {
		if slices.Contains(why, s.why) {
			n++
		}
	}
	return n
}

func (d *docClient) last() sending { return d.sendings[len(d.sendings)-1] }

func (d *docClient) tick() []api.Out {
	if d.phase != api.PhWaiting {
		return nil
	}
	d.ticks++
	last := d.last()
	switch {
	case d.ticks < d.patience:
		return nil
	case d.count(begun, again, turned) == d.tries:
		d.phase = api.PhUnknown
		return nil
	case last.why != again:
		return d.send(last.to, again)
	case int(last.to) == d.hosts-1:
		return d.send(0, turned)
	}
	return d.send(last.to+1, turned)
}

func (d *docClient) giveUp() api.Errno {
	if d.phase != api.PhWaiting {
		return api.ErrIdle
	}
	d.phase = api.PhUnknown
	return api.OK
}

// askedSinceTry tells whether the last try, or a redirect behind it, went to a host.
func (d *docClient) askedSinceTry(host api.Addr) bool {
	for _, s := range slices.Backward(d.sendings) {
		if s.to == host {
			return true
		}
		if s.why != redirected {
			break
		}
	}
	return false
}

func (d *docClient) take(from api.Addr, m api.Message) ([]api.Out, api.Errno) {
	if d.phase != api.PhWaiting || int(from) >= d.hosts || wire.Check(m) != api.OK || m.Seq != d.number {
		return nil, api.ErrStray
	}
	r := d.request
	if m.Kind == api.KReply && m.Of == r.Kind {
		below := slices.ContainsFunc(m.Pairs, func(p api.Pair) bool { return p.Key < r.Key })
		if r.Kind == api.KScan && (m.Hi < r.Key || m.Hi > r.Hi || below || len(m.Pairs) > int(r.Limit)) {
			return nil, api.ErrStray
		}
		d.phase, d.answerer = api.PhDone, from
		d.answer = copyMessage(m)
		return nil, api.OK
	}
	if m.Kind != api.KRedirect || from != d.last().to || m.Key > r.Key || r.Key > m.Hi || int(m.Host) >= d.hosts || m.Host == from {
		return nil, api.ErrStray
	}
	if now := joined(append(slices.Clone(d.hints), api.Segment{Lo: m.Key, Hi: m.Hi, Host: m.Host})); len(now) <= mostHints {
		d.hints = now
	}
	if d.askedSinceTry(m.Host) {
		return nil, api.OK
	}
	return d.send(m.Host, redirected), api.OK
}

func copyMessage(m api.Message) api.Message {
	m.Value, m.Pairs = slices.Clone(m.Value), slices.Clone(m.Pairs)
	for i := range m.Pairs {
		m.Pairs[i].Value = slices.Clone(m.Pairs[i].Value)
	}
	return m
}

func (d *docClient) outcome() api.Outcome {
	if d.phase == api.PhIdle {
		return api.Outcome{}
	}
	o := api.Outcome{Phase: d.phase, Seq: d.number, Host: d.last().to, Sent: len(d.sendings), Hops: d.count(redirected)}
	if d.phase == api.PhDone {
		o.Host, o.Status, o.Value, o.Pairs, o.Hi = d.answerer, d.answer.Status, d.answer.Value, d.answer.Pairs, d.answer.Hi
	}
	return o
}

// shown is a value as a text, in which an empty list is the same as none.
func shown(v any) string { return fmt.Sprintf("%+v", v) }

// told is all that a client tells of itself.
type told struct {
	Outcome api.Outcome
	Request api.Request
	Hints   []api.Segment
}

func tell(c *client.Client) told { return told{c.Outcome(), c.Request(), c.Hints()} }

func (d *docClient) tell() told { return told{d.outcome(), d.request, d.hints} }

// twin is a client and the document's, to which the same is done.
type twin struct {
	t *testing.T
	c *client.Client
	d *docClient
}

func newTwin(t *testing.T, hosts, patience, tries int) twin {
	t.Helper()
	d, e := newDocClient(16, hosts, patience, tries)
	isErr(t, e, api.OK)
	return twin{t, newClient(t, hosts, patience, tries), d}
}

// same holds what a call answered, and all that is told behind it, against the document's.
func (w twin) same(call string, got, want []api.Out, x, y api.Errno) {
	w.t.Helper()
	if shown(got) != shown(want) || x != y {
		w.t.Fatalf("%s: %v, %d; want %v, %d", call, got, x, want, y)
	}
	w.sameTold(call)
}

func (w twin) sameTold(call string) {
	w.t.Helper()
	if got, want := shown(tell(w.c)), shown(w.d.tell()); got != want {
		w.t.Fatalf("%s: %s; want %s", call, got, want)
	}
}

func (w twin) aim(host api.Addr) {
	w.t.Helper()
	w.same("Aim", nil, nil, w.c.Aim(host), w.d.aim(host))
}

func (w twin) begin(r api.Request) {
	w.t.Helper()
	got, x := w.c.Begin(r)
	want, y := w.d.begin(r)
	w.same("Begin "+shown(r), got, want, x, y)
}

func (w twin) take(from api.Addr, m api.Message) {
	w.t.Helper()
	got, x := w.c.Take(from, m)
	want, y := w.d.take(from, m)
	w.same("Take "+shown(m), got, want, x, y)
}

func (w twin) tick() {
	w.t.Helper()
	w.same("Tick", w.c.Tick(), w.d.tick(), 0, 0)
}

func (w twin) giveUp() {
	w.t.Helper()
	w.same("GiveUp", nil, nil, w.c.GiveUp(), w.d.giveUp())
}

func newClient(t *testing.T, hosts, patience, tries int) *client.Client {
	t.Helper()
	c, e := client.New(16, hosts, patience, tries)
	if c == nil || e != api.OK {
		t.Fatalf("New(16, %d, %d, %d): %v, %d", hosts, patience, tries, c, e)
	}
	return c
}

// waiting makes a client that has begun a request.
func waiting(t *testing.T, hosts, patience, tries int, r api.Request) *client.Client {
	t.Helper()
	c := newClient(t, hosts, patience, tries)
	isBegun(t, c, r, 0)
	return c
}

func get(key uint64) api.Request { return api.Request{Kind: api.KGet, Key: key} }

func del(key uint64) api.Request { return api.Request{Kind: api.KDelete, Key: key} }

func set(key uint64, value string) api.Request {
	return api.Request{Kind: api.KSet, Key: key, Value: []byte(value)}
}

func cas(key uint64, old, value string) api.Request {
	return api.Request{Kind: api.KCas, Key: key, Has: true, Old: []byte(old), Value: []byte(value)}
}

func create(key uint64, value string) api.Request {
	return api.Request{Kind: api.KCas, Key: key, Value: []byte(value)}
}

func scan(key, hi uint64, limit uint8) api.Request {
	return api.Request{Kind: api.KScan, Key: key, Hi: hi, Limit: limit}
}

// messageOf is written from the chapter's words: the kind, the number, the other fields as they stand.
func messageOf(r api.Request, seq uint64) api.Message {
	m := api.Message{Kind: r.Kind, Seq: seq}
	m.Key, m.Hi, m.Value, m.Old, m.Has, m.Limit = r.Key, r.Hi, r.Value, r.Old, r.Has, r.Limit
	return m
}

func reply(seq uint64, of api.Kind, status api.Status) api.Message {
	return api.Message{Kind: api.KReply, Seq: seq, Of: of, Status: status}
}

func gotten(seq uint64, value string) api.Message {
	m := reply(seq, api.KGet, api.StOK)
	m.Value = []byte(value)
	return m
}

func scanned(seq, hi uint64, keys ...uint64) api.Message {
	m := reply(seq, api.KScan, api.StOK)
	m.Hi = hi
	for _, key := range keys {
		m.Pairs = append(m.Pairs, api.Pair{Key: key, Value: []byte(fmt.Sprint("v", key))})
	}
	return m
}

func redirect(seq, lo, hi uint64, host api.Addr) api.Message {
	return api.Message{Kind: api.KRedirect, Seq: seq, Key: lo, Hi: hi, Host: host}
}

func isErr(t *testing.T, got, want api.Errno) {
	t.Helper()
	if got != want {
		t.Errorf("%d; want %d", got, want)
	}
}

// isSent: one message, that of the client's request, to a host.
func isSent(t *testing.T, c *client.Client, got []api.Out, to api.Addr) {
	t.Helper()
	want := []api.Out{{To: to, M: messageOf(c.Request(), c.Outcome().Seq)}}
	if shown(got) != shown(want) {
		t.Errorf("sent: %v; want %v", got, want)
	}
}

func isBegun(t *testing.T, c *client.Client, r api.Request, to api.Addr) {
	t.Helper()
	before := c.Outcome().Seq
	got, e := c.Begin(r)
	want := []api.Out{{To: to, M: messageOf(r, before+1)}}
	if e != api.OK || shown(got) != shown(want) {
		t.Fatalf("Begin(%+v): %v, %d; want %v", r, got, e, want)
	}
	isOutcome(t, c, api.Outcome{Phase: api.PhWaiting, Seq: before + 1, Host: to, Sent: 1})
	if shown(c.Request()) != shown(r) {
		t.Errorf("Request: %+v; want %+v", c.Request(), r)
	}
}

func isRefused(t *testing.T, c *client.Client, r api.Request, want api.Errno) {
	t.Helper()
	before := shown(tell(c))
	if got, e := c.Begin(r); e != want || len(got) != 0 {
		t.Errorf("Begin(%+v): %v, %d; want %d", r, got, e, want)
	}
	if after := shown(tell(c)); after != before {
		t.Errorf("Begin(%+v) made %s of %s", r, after, before)
	}
}

// isTicks: each tick sends to a host, or nothing (-1).
func isTicks(t *testing.T, c *client.Client, want ...int) {
	t.Helper()
	for i, to := range want {
		got := c.Tick()
		if to >= 0 {
			isSent(t, c, got, api.Addr(to))
		} else if len(got) != 0 {
			t.Errorf("tick %d: %v; want nothing", i, got)
		}
	}
}

// isFollowed: the message is a redirect that is followed.
func isFollowed(t *testing.T, c *client.Client, from api.Addr, m api.Message) {
	t.Helper()
	want := c.Outcome()
	want.Host, want.Sent, want.Hops = m.Host, want.Sent+1, want.Hops+1
	got, e := c.Take(from, m)
	isErr(t, e, api.OK)
	isSent(t, c, got, m.Host)
	isOutcome(t, c, want)
}

// isHeard: the message is a redirect that is not followed.
func isHeard(t *testing.T, c *client.Client, from api.Addr, m api.Message) {
	t.Helper()
	want := c.Outcome()
	if got, e := c.Take(from, m); e != api.OK || len(got) != 0 {
		t.Errorf("Take(%d, %+v): %v, %d; want nothing", from, m, got, e)
	}
	isOutcome(t, c, want)
}

// isDone: the message is the answer.
func isDone(t *testing.T, c *client.Client, from api.Addr, m api.Message) {
	t.Helper()
	want, hints := c.Outcome(), shown(c.Hints())
	want.Phase, want.Host, want.Status, want.Value, want.Pairs, want.Hi = api.PhDone, from, m.Status, m.Value, m.Pairs, m.Hi
	if got, e := c.Take(from, m); e != api.OK || len(got) != 0 {
		t.Errorf("Take(%d, %+v): %v, %d; want nothing", from, m, got, e)
	}
	isOutcome(t, c, want)
	if shown(c.Hints()) != hints {
		t.Errorf("Hints: %v; want %s", c.Hints(), hints)
	}
}

func isStray(t *testing.T, c *client.Client, from api.Addr, m api.Message) {
	t.Helper()
	before := shown(tell(c))
	if got, e := c.Take(from, m); e != api.ErrStray || len(got) != 0 {
		t.Errorf("Take(%d, %+v): %v, %d; want %d", from, m, got, e, api.ErrStray)
	}
	if after := shown(tell(c)); after != before {
		t.Errorf("Take(%d, %+v) made %s of %s", from, m, after, before)
	}
}

func isOutcome(t *testing.T, c *client.Client, want api.Outcome) {
	t.Helper()
	if got := c.Outcome(); shown(got) != shown(want) {
		t.Errorf("Outcome: %+v; want %+v", got, want)
	}
}

func isHints(t *testing.T, c *client.Client, want ...api.Segment) {
	t.Helper()
	if got := c.Hints(); shown(got) != shown(want) {
		t.Errorf("Hints: %v; want %v", got, want)
	}
}

// room is where a list lies, spare room included.
type room struct{ first, behind uintptr }

func roomOf[T any](list []T) []room {
	var one T
	if cap(list) == 0 {
		return nil
	}
	first := uintptr(unsafe.Pointer(unsafe.SliceData(list)))
	return []room{{first, first + uintptr(cap(list))*unsafe.Sizeof(one)}}
}

func roomsOfMessage(m api.Message) []room {
	rooms := slices.Concat(roomOf(m.Value), roomOf(m.Old), roomOf(m.Pairs), roomOf(m.Sessions), roomOf(m.Payload))
	for _, p := range m.Pairs {
		rooms = append(rooms, roomOf(p.Value)...)
	}
	return rooms
}

func roomsOfOuts(list []api.Out) []room {
	rooms := roomOf(list)
	for _, o := range list {
		rooms = append(rooms, roomsOfMessage(o.M)...)
	}
	return rooms
}

func roomsOfTold(s told) []room {
	rooms := slices.Concat(roomOf(s.Outcome.Value), roomOf(s.Outcome.Pairs), roomOf(s.Request.Value), roomOf(s.Request.Old), roomOf(s.Hints))
	for _, p := range s.Outcome.Pairs {
		rooms = append(rooms, roomOf(p.Value)...)
	}
	return rooms
}

func apart(rooms []room) bool {
	slices.SortFunc(rooms, func(a, b room) int { return int(a.first) - int(b.first) })
	for i := 1; i < len(rooms); i++ {
		if rooms[i-1].behind > rooms[i].first {
			return false
		}
	}
	return true
}

// spoil writes over a list of bytes and its spare room.
func spoil(b []byte) {
	b = b[:cap(b)]
	for i := range b {
		b[i] ^= 0x5a
	}
}

func spoilPairs(list []api.Pair) {
	for i, p := range list {
		spoil(p.Value)
		list[i].Key ^= 0x5a
	}
}

func spoilOuts(list []api.Out) {
	for i, o := range list {
		spoil(o.M.Value)
		spoil(o.M.Old)
		list[i] = api.Out{To: 99}
	}
}

func spoilTold(s told) {
	spoil(s.Outcome.Value)
	spoilPairs(s.Outcome.Pairs)
	spoil(s.Request.Value)
	spoil(s.Request.Old)
	for i := range s.Hints {
		s.Hints[i] = api.Segment{Lo: 9, Hi: 3, Host: 99}
	}
}
