package cluster_test

import (
	"fmt"
	"reflect"
	"slices"
	"testing"
	"unsafe"

	"shard/api"
	"shard/cluster"
	"shard/frag"
	"shard/wire"
)

const top uint64 = 1<<64 - 1

// config is the configuration of the chapter's examples.
func config() api.Config {
	return api.Config{Hosts: 2, Clients: 1, Pairs: 4, Bounds: 4, Queue: 2, Window: 1, Group: 1, Keep: 64, MTU: 256, Net: 64, Patience: 2, Tries: 3}
}

// wide is a configuration with plenty of everything.
func wide() api.Config {
	c := config()
	c.Hosts, c.Clients, c.Pairs, c.Bounds, c.Queue, c.Window, c.Net = 3, 3, 100, 50, 4, 2, 1000
	return c
}

// late is wide, and syncs by itself but rarely.
func late() api.Config {
	c := wide()
	c.Group = 64
	return c
}

func newCluster(t *testing.T, c api.Config) *cluster.Cluster {
	t.Helper()
	k, e := cluster.New(c)
	if k == nil || e != api.OK {
		t.Fatalf("New(%+v): %d", c, e)
	}
	return k
}

// shown is a value as a text, in which an empty list is the same as none.
func shown(v any) string { return fmt.Sprintf("%+v", v) }

func brief(v any) string {
	text := shown(v)
	return text[:min(len(text), 900)]
}

// same tells whether two values are the same; an empty list is the same as none.
func same(a, b any) bool { return reflect.DeepEqual(a, b) || shown(a) == shown(b) }

func isSame(t *testing.T, what string, got, want any) {
	t.Helper()
	if !same(got, want) {
		t.Fatalf("%s: %s; want %s", what, brief(got), brief(want))
	}
}

// plays wants a step to answer so; it gives the step's events.
func plays(t *testing.T, k *cluster.Cluster, s api.Step, err api.Errno, sent int, events ...api.Event) {
	t.Helper()
	isSame(t, brief(s), k.Step(s), api.Answer{Err: err, Sent: sent, Events: events})
}

// does wants steps to answer OK.
func does(t *testing.T, k *cluster.Cluster, steps ...api.Step) {
	t.Helper()
	for _, s := range steps {
		if a := k.Step(s); a.Err != api.OK {
			t.Fatalf("%s: %+v", brief(s), a)
		}
	}
}

// refuses wants a step to change nothing but the number of steps.
func refuses(t *testing.T, k *cluster.Cluster, s api.Step, err api.Errno) {
	t.Helper()
	before := shown(tell(k))
	plays(t, k, s, err, 0)
	if after := shown(tell(k)); after != before {
		t.Fatalf("%s has changed something: %s; before: %s", brief(s), brief(after), brief(before))
	}
}

// steps

func begin(a api.Addr, r api.Request) api.Step { return api.Step{Kind: api.SBegin, A: a, Req: r} }

func beginAt(a, host api.Addr, r api.Request) api.Step {
	return api.Step{Kind: api.SBegin, A: a, B: host, On: true, Req: r}
}

func shard(from, to api.Addr, lo, hi uint64, grant, bounds int) api.Step {
	return api.Step{Kind: api.SShard, A: from, B: to, Lo: lo, Hi: hi, N: grant, M: bounds}
}

func deliver(n int) api.Step { return api.Step{Kind: api.SDeliver, N: n} }

func double(n int) api.Step { return api.Step{Kind: api.SDeliver, N: n, On: true} }

func drop(n int) api.Step { return api.Step{Kind: api.SDrop, N: n} }

func inject(from, to api.Addr, data []byte) api.Step {
	return api.Step{Kind: api.SInject, A: from, B: to, Data: data}
}

func block(from, to api.Addr) api.Step { return api.Step{Kind: api.SBlock, A: from, B: to, On: true} }

func heal(from, to api.Addr) api.Step { return api.Step{Kind: api.SBlock, A: from, B: to} }

func settle(rounds int, x uint64) api.Step { return api.Step{Kind: api.SSettle, N: rounds, Lo: x} }

func crash(a api.Addr, keep int) api.Step { return api.Step{Kind: api.SCrash, A: a, N: keep} }

// on is a step of a kind that needs an address alone.
func on(kind api.StepKind, a api.Addr) api.Step { return api.Step{Kind: kind, A: a} }

// requests

func get(key uint64) api.Request { return api.Request{Kind: api.KGet, Key: key} }

func set(key uint64, value string) api.Request {
	return api.Request{Kind: api.KSet, Key: key, Value: []byte(value)}
}

func del(key uint64) api.Request { return api.Request{Kind: api.KDelete, Key: key} }

func cas(key uint64, old, value string) api.Request {
	return api.Request{Kind: api.KCas, Key: key, Has: true, Old: []byte(old), Value: []byte(value)}
}

func scan(lo, hi uint64, limit uint8) api.Request {
	return api.Request{Kind: api.KScan, Key: lo, Hi: hi, Limit: limit}
}

// long gives a value of n bytes.
func long(n int) string { return string(make([]byte, n)) }

func pair(key uint64, value string) api.Pair { return api.Pair{Key: key, Value: []byte(value)} }

func seg(lo, hi uint64, host api.Addr) api.Segment { return api.Segment{Lo: lo, Hi: hi, Host: host} }

// events

func invoked(step int, who api.Addr, seq uint64, r api.Request) api.Event {
	return api.Event{Kind: api.EvInvoke, Step: step, Who: who, Seq: seq, Req: r}
}

func returned(step int, who api.Addr, out api.Outcome) api.Event {
	out.Phase = api.PhDone
	return api.Event{Kind: api.EvReturn, Step: step, Who: who, Seq: out.Seq, Out: out}
}

func givenUp(step int, who api.Addr, seq uint64) api.Event {
	return api.Event{Kind: api.EvGiveUp, Step: step, Who: who, Seq: seq}
}

func asked(step int, seq uint64, s api.Step) api.Event {
	m := api.Message{Kind: api.KShard, Seq: seq, Key: s.Lo, Hi: s.Hi, Host: s.B, Grant: uint32(s.N), Bounds: uint32(s.M)}
	return api.Event{Kind: api.EvShard, Step: step, Who: api.Admin, Seq: seq, Host: s.A, Shard: m}
}

func heard(step int, seq uint64, host api.Addr, status api.Status) api.Event {
	return api.Event{Kind: api.EvDone, Step: step, Who: api.Admin, Seq: seq, Host: host, Status: status}
}

// packets

func packetOf(m api.Message) []byte {
	b, e := wire.Marshal(m)
	if e != api.OK {
		panic(e)
	}
	return b
}

func partsOf(m api.Message, id uint64, mtu int) [][]byte { return split(packetOf(m), id, mtu) }

func split(packet []byte, id uint64, mtu int) [][]byte {
	parts, e := frag.Split(packet, id, mtu)
	if e != api.OK {
		panic(e)
	}
	return parts
}

// letter is a message on its way, with its packet's number.
type letter struct {
	from, to api.Addr
	id       uint64
	m        api.Message
}

// letters puts the packets of datagrams together again; of some there may be but a part.
func letters(list []api.Datagram) []letter {
	joiners := map[api.Addr]*frag.Joiner{}
	var all []letter
	for _, d := range list {
		if joiners[d.To] == nil {
			joiners[d.To], _ = frag.New(api.MaxSlots, 1)
		}
		packet, whole, _ := joiners[d.To].Take(d.From, d.Data)
		if !whole {
			continue
		}
		if m, _, e := wire.Parse(packet); e == api.OK {
			f, _ := frag.Look(d.Data)
			all = append(all, letter{d.From, d.To, f.Id, m})
		}
	}
	return all
}

// isNet wants the network to hold just these messages.
func isNet(t *testing.T, k *cluster.Cluster, want ...letter) {
	t.Helper()
	isSame(t, "the messages in the network", letters(k.Net()), want)
}

// links gives the datagrams' ways.
func links(k *cluster.Cluster) []api.Link {
	var list []api.Link
	for _, d := range k.Net() {
		list = append(list, api.Link{From: d.From, To: d.To})
	}
	return list
}

// told is all that a cluster tells.
type told struct {
	Picture, Durable api.Picture
	Events           []api.Event
	Net              []api.Datagram
	Count            api.NetCount
	Outcomes         []api.Outcome
	Hints            [][]api.Segment
	Infos            []api.NodeInfo
	Disks            []api.Disk
	Moves            []api.Move
	NoPlan           api.Errno
}

func tell(k *cluster.Cluster) told {
	a := told{Picture: k.Picture(), Durable: k.Durable(), Events: k.Events(), Net: k.Net(), Count: k.Count()}
	for i := range api.Addr(api.MaxClients) {
		if o, e := k.Client(api.FirstClient + i); e == api.OK {
			a.Outcomes = append(a.Outcomes, o)
		}
		if s, e := k.Hints(api.FirstClient + i); e == api.OK {
			a.Hints = append(a.Hints, s)
		}
	}
	for h := range api.Addr(api.MaxHosts) {
		if n, e := k.Node(h); e == api.OK {
			a.Infos = append(a.Infos, n)
		}
		if d, e := k.Disk(h); e == api.OK {
			a.Disks = append(a.Disks, d)
		}
	}
	a.Moves, a.NoPlan = k.Plan()
	return a
}

// isTold wants two to tell the same, part by part.
func isTold(t *testing.T, what string, got, want told) {
	t.Helper()
	if reflect.DeepEqual(got, want) {
		return
	}
	a, b := reflect.ValueOf(got), reflect.ValueOf(want)
	for i := range a.NumField() {
		isSame(t, what+": "+a.Type().Field(i).Name, a.Field(i).Interface(), b.Field(i).Interface())
	}
}

// room is where a list lies, spare room included.
type room struct{ first, behind uintptr }

func roomOf[T any](list []T) []room {
	var one T
	if cap(list) == 0 {
		return nil
	}
	first := uintptr(unsafe.Pointer(unsafe.SliceData(list)))
	return []room{{first, first + uintptr(cap(list))*unsafe.Sizeof(one)}}
}

// roomsOf finds the lists in a value, and those within them.
func roomsOf(v reflect.Value) []room {
	var rooms []room
	switch v.Kind() {
	case reflect.Struct:
		for i := range v.NumField() {
			rooms = append(rooms, roomsOf(v.Field(i))...)
		}
	case reflect.Array:
		for i := range v.Len() {
			rooms = append(rooms, roomsOf(v.Index(i))...)
		}
	case reflect.Slice:
		if v.Cap() > 0 {
			first := v.Pointer()
			rooms = append(rooms, room{first, first + uintptr(v.Cap())*v.Type().Elem().Size()})
		}
		for i := range v.Len() {
			rooms = append(rooms, roomsOf(v.Index(i))...)
		}
	}
	return rooms
}

func apart(rooms []room) bool {
	slices.SortFunc(rooms, func(a, b room) int { return int(a.first) - int(b.first) })
	for i := 1; i < len(rooms); i++ {
		if rooms[i-1].behind > rooms[i].first {
			return false
		}
	}
	return true
}

// spoil writes over all lists in a value, and over their spare room.
func spoil(v reflect.Value) {
	switch v.Kind() {
	case reflect.Struct:
		for i := range v.NumField() {
			spoil(v.Field(i))
		}
	case reflect.Array:
		for i := range v.Len() {
			spoil(v.Index(i))
		}
	case reflect.Slice:
		for i := range v.Len() {
			spoil(v.Index(i))
		}
		whole := v.Slice3(0, v.Cap(), v.Cap())
		for i := range whole.Len() {
			spoilOne(whole.Index(i))
		}
	}
}

func spoilOne(v reflect.Value) {
	if v.Kind() == reflect.Uint8 {
		v.SetUint(v.Uint() ^ 0x5a)
		return
	}
	v.SetZero()
}
