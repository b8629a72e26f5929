package core_test

import (
	"math"
	"runtime"
	"slices"
	"testing"

	"shard/api"
	"shard/core"
)

func TestP10_21Nil(t *testing.T) {
	var none *core.Core
	for _, m := range oneOfEach() {
		for _, from := range []api.Addr{0, 1, 16, 32, 99} {
			if got, did, e := none.Apply(from, m); len(got) != 0 || did || e != api.ErrNil {
				t.Errorf("Apply(%d, %s) of nil: %v, %v, %d", from, brief(m), got, did, e)
			}
		}
	}
	if len(none.Tick()) != 0 || shown(none.State()) != shown(api.HostState{}) {
		t.Errorf("Tick or State of nil")
	}
}

func TestP10_21Unmade(t *testing.T) {
	n := new(core.Core)
	for _, m := range oneOfEach() {
		for _, from := range []api.Addr{0, 1, 16, 32, 99} {
			n.Apply(from, m)
		}
	}
	n.Tick()
	n.State()
}

func TestP10_21StrangeStates(t *testing.T) {
	for _, s := range []api.HostState{
		{}, {Self: 255}, {Free: math.MaxInt, Spare: math.MaxInt}, {Free: math.MinInt, Spare: math.MinInt},
		{Table: []api.Segment{{}}}, {Table: make([]api.Segment, 9000)}, {Pairs: make([]api.Pair, 40000)}, {Sessions: make([]api.Session, 300)},
		{End: api.EndState{Peers: make([]api.PeerState, 1000)}},
		{Table: []api.Segment{seg(0, top, 0)}, Sessions: []api.Session{{}}},
		{Table: []api.Segment{seg(0, top, 0)}, End: api.EndState{Peers: []api.PeerState{{Queue: make([][]byte, 3)}}}},
		{Table: []api.Segment{seg(0, top, 0)}, End: api.EndState{Peers: []api.PeerState{{}, {Sent: 3, Queue: make([][]byte, 3)}}}},
		{Table: []api.Segment{seg(0, top, 0)}, End: api.EndState{Peers: []api.PeerState{{}, {Early: make([]api.Frame, 3)}}}},
	} {
		isErr(t, core.CheckState(small(), s), api.ErrState)
		if b, e := core.Save(s); len(b) != 0 || e != api.ErrState {
			t.Errorf("Save(%s): %d", brief(s), e)
		}
		if n, e := core.Load(small(), s); n != nil || e != api.ErrState {
			t.Errorf("Load(%s): %d", brief(s), e)
		}
	}
}

// talk gives messages that lead to every sort of answer, for a core with the state full.
func talk() []struct {
	from api.Addr
	m    api.Message
} {
	return []struct {
		from api.Addr
		m    api.Message
	}{
		{16, get(9, 15)}, {16, scan(9, 10, 19, 16)}, {16, scan(9, 10, 19, 1)}, {16, get(9, 0)}, {16, set(9, 60, "sixty")}, {16, cas(10, 60, "sixty", "more")}, {16, fill(11, 61, "x")}, {17, del(400, 15)},
		{api.Admin, shard(30, 50, 2, 1, 1)}, {api.Admin, shard(60, 70, 2, 0, 0)}, {0, ack(5, 0)}, {3, data(3, delegation(20, 25, 1, 1, []api.Pair{pair(21, "n")}, []api.Session{sess(20, 2, api.StOK)}))}, {2, data(2, plain(10, 12))},
		{18, set(1, 0, "gone")}, {3, data(9, plain(1, 2))}, {18, set(1, 10, string(make([]byte, 65)))},
	}
}

// What is handed in is neither changed nor kept.
func TestP10_21HandedIn(t *testing.T) {
	s := full()
	before := shown(s)
	n := loadCore(t, wide(), s)
	core.Save(s)
	core.CheckState(wide(), s)
	if shown(s) != before {
		t.Errorf("the state that was handed in has changed")
	}
	spoilState(s)
	isState(t, n, full())
	d := loadDoc(wide(), full())
	for i, row := range talk() {
		told := shown(row.m)
		holdApply(t, n, d, row.from, row.m)
		if shown(row.m) != told {
			t.Errorf("row %d: the message has changed", i)
		}
		spoilMessage(row.m)
		isState(t, n, d.state())
	}
	b := sealed(docBody(full()))
	twin := slices.Clone(b)
	got, _ := core.Read(b)
	if !slices.Equal(b, twin) {
		t.Errorf("Read has changed its bytes")
	}
	spoil(b)
	if shown(got) != shown(full()) {
		t.Errorf("Read keeps its bytes")
	}
}

// What is answered is new memory: no two lists share any, and to write into one is seen by nothing else.
func TestP10_21Answers(t *testing.T) {
	n, d := loadCore(t, wide(), full()), loadDoc(wide(), full())
	var held []any
	var rooms []room
	for _, row := range talk() {
		got, _, _ := n.Apply(row.from, row.m)
		d.apply(row.from, row.m)
		tick, s := n.Tick(), n.State()
		held = append(held, got, tick, s, row.m)
		rooms = slices.Concat(rooms, roomsOfOuts(got), roomsOfOuts(tick), roomsOfState(s), roomsOfMessage(row.m))
	}
	b, _ := core.Save(n.State())
	b2, _ := core.Save(n.State())
	back, _ := core.Read(b)
	held = append(held, b, b2, back)
	rooms = slices.Concat(rooms, roomOf(b), roomOf(b2), roomsOfState(back))
	if !apart(rooms) {
		t.Errorf("two answers share memory")
	}
	runtime.KeepAlive(held)
	n, d = loadCore(t, wide(), full()), loadDoc(wide(), full())
	for _, row := range talk() {
		spoilOuts(holdApply(t, n, d, row.from, row.m))
		spoilOuts(n.Tick())
		spoilState(n.State())
		isState(t, n, d.state())
	}
}

// Two cores of one state know nothing of each other.
func TestP10_21Apart(t *testing.T) {
	one, two := loadCore(t, wide(), full()), loadCore(t, wide(), full())
	for _, row := range talk() {
		one.Apply(row.from, row.m)
	}
	isState(t, two, full())
}
