package node_test

import (
	"math"
	"runtime"
	"slices"
	"testing"

	"shard/api"
	"shard/node"
)

func TestP11_15Nil(t *testing.T) {
	var none *node.Node
	fine := partsOf(get(1, 1), 64)[0]
	count, e := none.Sync()
	for i, e := range []api.Errno{none.Take(16, fine), none.Take(api.NoOne, nil), none.Tick(), e, none.Compact(), none.Crash(0), none.Crash(-1), none.Restart()} {
		if e != api.ErrNil || count != 0 {
			t.Errorf("call %d: %d", i, e)
		}
	}
}

// A node that nobody made does not panic.
func TestP11_15Unmade(t *testing.T) {
	n := new(node.Node)
	for range 2 {
		n.Take(16, partsOf(get(1, 1), 64)[0])
		n.Take(api.NoOne, nil)
		n.Tick()
		n.Sync()
		n.Compact()
		n.Out()
		tell(n)
		n.Crash(0)
		n.Crash(-1)
		n.Restart()
	}
}

func TestP11_15StrangeArguments(t *testing.T) {
	n := newNode(t, config(), 0)
	for from := range 256 {
		for _, b := range [][]byte{nil, {}, {0xD6}, make([]byte, 19), make([]byte, 1024), make([]byte, 1<<20)} {
			if e := n.Take(api.Addr(from), b); e == api.OK {
				t.Errorf("Take(%d, %d bytes) is taken", from, len(b))
			}
		}
	}
	isErr(t, n.Crash(math.MaxInt), api.OK)
	for _, c := range append(badConfigs(), config(), wide()) {
		for _, d := range []api.Disk{{}, n.Disk(), {Slots: [2][]byte{make([]byte, 100), make([]byte, 1<<20)}}} {
			for _, self := range []api.Addr{0, 1, 2, 255} {
				if o, e := node.Open(c, self, d); (o == nil) == (e == api.OK) {
					t.Errorf("%d, and a node: %v", e, o != nil)
				}
			}
		}
	}
}

// What is handed in is neither changed nor kept.
func TestP11_15HandedIn(t *testing.T) {
	c := wide()
	d := diskOf(4, stateOf(3, full(1)), recordOf(16, set(9, 20, "v")))
	copied := api.Disk{Slots: [2][]byte{slices.Clone(d.Slots[0]), slices.Clone(d.Slots[1])}}
	n, same := openNode(t, c, 1, d), openNode(t, c, 1, copied)
	if shown(d) != shown(copied) {
		t.Errorf("Open has changed its disk")
	}
	spoilDisk(d)
	if shown(tell(n)) != shown(tell(same)) {
		t.Errorf("Open keeps its disk")
	}
	for _, m := range []api.Message{set(10, 21, long(64)), get(11, 20), set(12, 22, long(64))} {
		for _, b := range partsOf(m, 64) {
			given := append(make([]byte, 0, 99), b...)
			isErr(t, n.Take(16, given), same.Take(16, b))
			if !slices.Equal(given, b) {
				t.Errorf("Take has changed its datagram")
			}
			spoil(given)
			if shown(tell(n)) != shown(tell(same)) {
				t.Errorf("Take keeps its datagram")
			}
		}
	}
	n.Sync()
	same.Sync()
	if shown(n.Out()) != shown(same.Out()) || shown(tell(n)) != shown(tell(same)) {
		t.Errorf("Take keeps its datagrams")
	}
}

// What is answered is new memory: no two lists share any, and to write into one is seen by nothing else.
func TestP11_15Answers(t *testing.T) {
	c := wide()
	c.MTU = 64
	talk := func(n *node.Node, each func()) {
		for i, m := range []api.Message{set(9, 20, "v"), set(10, 21, long(64)), scan(11, 10, 99, 9), get(11, 0), del(12, 99)} {
			for _, b := range partsOf(m, 64) {
				n.Take(16, b)
				each()
			}
			if i%2 == 1 {
				n.Sync()
				each()
			}
			n.Tick()
			each()
		}
		n.Take(api.Admin, partsOf(shard(10, 20, 2, 1, 1), 1024)[0])
		each()
		n.Compact()
		each()
		n.Crash(1 << 20)
		each()
		n.Restart()
		each()
	}
	disk := diskOf(4, stateOf(3, full(1)))
	n := openNode(t, c, 1, disk)
	var held []any
	var rooms []room
	talk(n, func() {
		a, b, out := tell(n), tell(n), n.Out()
		held = append(held, a, b, out)
		rooms = slices.Concat(rooms, roomsOfTold(a), roomsOfTold(b), roomsOfDatagrams(out))
	})
	held = append(held, disk)
	rooms = slices.Concat(rooms, roomOf(disk.Slots[0]), roomOf(disk.Slots[1]))
	if !apart(rooms) {
		t.Errorf("two answers share memory")
	}
	runtime.KeepAlive(held)
	var want []string
	n = openNode(t, c, 1, diskOf(4, stateOf(3, full(1))))
	lastId = 1 << 20
	talk(n, func() { want = append(want, shown(tell(n)), shown(n.Out())) })
	n = openNode(t, c, 1, diskOf(4, stateOf(3, full(1))))
	lastId = 1 << 20
	i := 0
	talk(n, func() {
		a, out := tell(n), n.Out()
		if shown(a) != want[i] || shown(out) != want[i+1] {
			t.Errorf("answer %d: what was written into an answer is seen", i)
		}
		i += 2
		spoilDisk(a.Disk)
		spoilState(a.State)
		spoilState(a.Durable)
		spoilDatagrams(out)
	})
}

// Two nodes of one disk know nothing of each other.
func TestP11_15Apart(t *testing.T) {
	d := diskOf(4, stateOf(3, full(1)))
	one, two := openNode(t, wide(), 1, d), openNode(t, wide(), 1, d)
	before := shown(tell(two))
	give(t, one, 16, set(9, 20, "v"), api.OK)
	one.Sync()
	one.Crash(0)
	if shown(tell(two)) != before || len(two.Out()) != 0 {
		t.Errorf("a node changes another")
	}
}
