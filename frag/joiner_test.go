package frag_test

import (
	"bytes"
	"math"
	"math/rand"
	"slices"
	"testing"

	"shard/api"
	"shard/frag"
)

// slot is what Slots tells.
func slot(from api.Addr, id uint64, got, count, age int) api.FragSlot {
	return api.FragSlot{From: from, Id: id, Got: got, Count: count, Age: age}
}

func TestP4_3New(t *testing.T) {
	for _, c := range []struct{ slots, age int }{{0, 1}, {-1, 1}, {17, 1}, {1, 0}, {1, -1}, {1, 65}, {0, 0}, {17, 65}, {math.MinInt, 8}, {math.MaxInt, 8}, {8, math.MinInt}, {8, math.MaxInt}} {
		if j, e := frag.New(c.slots, c.age); j != nil || e != api.ErrArg {
			t.Errorf("New(%d, %d): %v, %d", c.slots, c.age, j, e)
		}
	}
	for _, c := range []struct{ slots, age int }{{1, 1}, {16, 1}, {1, 64}, {16, 64}, {5, 7}} {
		isSlots(t, newJoiner(t, c.slots, c.age))
	}
}

func TestP4_3EachSourceHasItsSlots(t *testing.T) {
	two := func(id uint64) []byte { return docFragments([]byte("ab"), id, 2)[0] }
	for most := 1; most <= 16; most++ {
		j := newJoiner(t, most, 64)
		var want []api.FragSlot
		for from := range api.Addr(3) {
			for id := range uint64(most + 2) {
				isTake(t, j, from, two(id), nil, false, api.OK)
				if id >= 2 {
					want = append(want, slot(from, id, 1, 2, 0))
				}
			}
		}
		isSlots(t, j, want...)
	}
}

func TestP4_3EachAge(t *testing.T) {
	for age := 1; age <= 64; age++ {
		j := newJoiner(t, 2, age)
		isTake(t, j, 5, docFragments([]byte("ab"), 7, 2)[0], nil, false, api.OK)
		for tick := 1; tick < age; tick++ {
			if n := j.Tick(); n != 0 {
				t.Fatalf("age %d, tick %d: %d went", age, tick, n)
			}
			isSlots(t, j, slot(5, 7, 1, 2, tick))
		}
		if n := j.Tick(); n != 1 {
			t.Fatalf("age %d, the last tick: %d went", age, n)
		}
		isSlots(t, j)
	}
}

func TestP4_4Examples(t *testing.T) {
	d := docFragments([]byte("packet"), 7, 2)
	j := newJoiner(t, 2, 3)
	isTake(t, j, 5, d[1], nil, false, api.OK)
	isTake(t, j, 5, d[0], []byte("packet"), true, api.OK)
	isTake(t, j, 5, d[0], nil, false, api.OK)
	isSlots(t, j, slot(5, 7, 1, 2, 0))
	if a, b, c := j.Tick(), j.Tick(), j.Tick(); a != 0 || b != 0 || c != 1 {
		t.Errorf("three ticks: %d, %d, %d", a, b, c)
	}
	isSlots(t, j)

	j = newJoiner(t, 1, 3)
	isTake(t, j, 5, d[0], nil, false, api.OK)
	isTake(t, j, 5, docFragments([]byte("second"), 8, 2)[0], nil, false, api.OK)
	isSlots(t, j, slot(5, 8, 1, 2, 0))
	isTake(t, j, 6, d[0], nil, false, api.OK)
	isSlots(t, j, slot(5, 8, 1, 2, 0), slot(6, 7, 1, 2, 0))
}

func TestP4_4AllOfAPacketInAnyOrder(t *testing.T) {
	rnd := rand.New(rand.NewSource(44))
	for count := 1; count <= 128; count++ {
		packet := randomBytes(rnd, count*(1+rnd.Intn(4096/count))) // so the shape is right
		if len(packet)/count > 1006 {
			packet = packet[:1006*count]
		}
		d := docFragments(packet, rnd.Uint64(), count)
		j := newJoiner(t, 1, 1)
		order := rnd.Perm(count)
		for k, i := range order {
			if k == count-1 {
				isTake(t, j, 254, d[i], packet, true, api.OK)
				break
			}
			isTake(t, j, 254, d[i], nil, false, api.OK)
			isTake(t, j, 254, d[order[rnd.Intn(k+1)]], nil, false, api.OK)
			if s := j.Slots(); len(s) != 1 || s[0].Got != k+1 || s[0].Count != count {
				t.Fatalf("%d of %d parts: Slots: %v", k+1, count, s)
			}
		}
		isSlots(t, j)
	}
}

// Each of these refusals leaves the slots as they are, and the first that is named counts.
func TestP4_4Refuses(t *testing.T) {
	d := docFragments([]byte("packet"), 7, 2)
	spoilt := bytes.Clone(d[1])
	spoilt[14] ^= 1
	j := newJoiner(t, 2, 3)
	isTake(t, j, 5, d[0], nil, false, api.OK)
	for _, c := range []struct {
		from api.Addr
		d    []byte
		want api.Errno
	}{
		{255, d[1], api.ErrFragFrom}, {255, nil, api.ErrFragFrom}, {255, spoilt, api.ErrFragFrom}, {255, docFragments([]byte("one"), 7, 1)[0], api.ErrFragFrom},
		{5, nil, api.ErrFrag}, {5, spoilt, api.ErrFragSum}, {5, docDatagram(7, 6, 2, 2, []byte("ket")), api.ErrFrag}, {5, docDatagram(7, 6, 1, 2, []byte("kets")), api.ErrFrag},
		{5, docFragments([]byte("packets"), 7, 2)[0], api.ErrClash}, {5, docFragments([]byte("packets"), 7, 2)[1], api.ErrClash},
		{5, docFragments([]byte("packet"), 7, 3)[0], api.ErrClash}, {5, docFragments([]byte("packet"), 7, 3)[2], api.ErrClash},
		{5, docFragments([]byte("packer"), 7, 3)[0], api.ErrClash}, {5, docFragments([]byte("pakket"), 7, 2)[0], api.ErrClash},
		{5, docFragments([]byte("pac"), 7, 3)[2], api.ErrClash}, {5, d[0], api.OK},
	} {
		isTake(t, j, c.from, c.d, nil, false, c.want)
		isSlots(t, j, slot(5, 7, 1, 2, 0))
	}
	isTake(t, j, 5, d[1], []byte("packet"), true, api.OK)
	isSlots(t, j)
}

// A packet of one fragment needs no slot, though all are taken and one has its Id.
func TestP4_4OneFragment(t *testing.T) {
	j := newJoiner(t, 1, 3)
	one := docFragments([]byte("one"), 7, 1)[0]
	isTake(t, j, 5, one, []byte("one"), true, api.OK)
	isSlots(t, j)
	two := docFragments([]byte("packet"), 7, 2)
	isTake(t, j, 5, two[0], nil, false, api.OK)
	for range 2 {
		isTake(t, j, 5, one, []byte("one"), true, api.OK)
		isTake(t, j, 5, docFragments(make([]byte, 1006), 8, 1)[0], make([]byte, 1006), true, api.OK)
		isSlots(t, j, slot(5, 7, 1, 2, 0))
	}
	isTake(t, j, 5, two[1], []byte("packet"), true, api.OK)
}

// The slot that was begun first goes, not the one that was touched last or the one of the least Id, and with all its parts.
func TestP4_4PushedOut(t *testing.T) {
	j := newJoiner(t, 3, 9)
	packet := []byte("nine byte")
	part := func(id uint64, i int) []byte { return docFragments(packet, id, 3)[i] }
	isTake(t, j, 5, part(30, 0), nil, false, api.OK)
	j.Tick()
	isTake(t, j, 5, part(10, 0), nil, false, api.OK)
	isTake(t, j, 5, part(20, 0), nil, false, api.OK)
	isTake(t, j, 5, part(30, 1), nil, false, api.OK)
	isSlots(t, j, slot(5, 30, 2, 3, 1), slot(5, 10, 1, 3, 0), slot(5, 20, 1, 3, 0))
	isTake(t, j, 5, part(0, 0), nil, false, api.OK)
	isSlots(t, j, slot(5, 10, 1, 3, 0), slot(5, 20, 1, 3, 0), slot(5, 0, 1, 3, 0))
	isTake(t, j, 5, part(30, 2), nil, false, api.OK)
	isSlots(t, j, slot(5, 20, 1, 3, 0), slot(5, 0, 1, 3, 0), slot(5, 30, 1, 3, 0))
	isTake(t, j, 5, part(0, 1), nil, false, api.OK)
	isTake(t, j, 5, part(0, 2), packet, true, api.OK)
	isSlots(t, j, slot(5, 20, 1, 3, 0), slot(5, 30, 1, 3, 0))
	isTake(t, j, 5, part(10, 2), nil, false, api.OK)
	isSlots(t, j, slot(5, 20, 1, 3, 0), slot(5, 30, 1, 3, 0), slot(5, 10, 1, 3, 0))
}

func TestP4_5TickEachSlotByItself(t *testing.T) {
	j := newJoiner(t, 4, 3)
	part := func(id uint64) []byte { return docFragments([]byte("packet"), id, 2)[0] }
	isTake(t, j, 5, part(1), nil, false, api.OK)
	isTake(t, j, 6, part(1), nil, false, api.OK)
	if n := j.Tick(); n != 0 {
		t.Errorf("tick 1: %d went", n)
	}
	isTake(t, j, 5, part(2), nil, false, api.OK)
	isTake(t, j, 5, part(1), nil, false, api.OK) // what is there already does not make a slot young
	if n := j.Tick(); n != 0 {
		t.Errorf("tick 2: %d went", n)
	}
	isTake(t, j, 5, part(3), nil, false, api.OK)
	isSlots(t, j, slot(5, 1, 1, 2, 2), slot(5, 2, 1, 2, 1), slot(5, 3, 1, 2, 0), slot(6, 1, 1, 2, 2))
	if n := j.Tick(); n != 2 {
		t.Errorf("tick 3: %d went", n)
	}
	isSlots(t, j, slot(5, 2, 1, 2, 2), slot(5, 3, 1, 2, 1))
	isTake(t, j, 6, docFragments([]byte("packet"), 1, 2)[1], nil, false, api.OK)
	if a, b, c, d := j.Tick(), j.Tick(), j.Tick(), j.Tick(); a != 1 || b != 1 || c != 1 || d != 0 {
		t.Errorf("ticks 4 to 7: %d, %d, %d, %d", a, b, c, d)
	}
}

func TestP4_6SlotsByRisingSource(t *testing.T) {
	j := newJoiner(t, 3, 9)
	var want []api.FragSlot
	rnd := rand.New(rand.NewSource(46))
	for _, from := range rnd.Perm(255) {
		for _, id := range []uint64{math.MaxUint64, 0, 1 << 40} {
			isTake(t, j, api.Addr(from), docFragments([]byte("packet"), id, 3)[1], nil, false, api.OK)
			want = append(want, slot(api.Addr(from), id, 1, 3, 0))
		}
	}
	slices.SortStableFunc(want, func(a, b api.FragSlot) int { return int(a.From) - int(b.From) })
	isSlots(t, j, want...)
	isSlots(t, j, want...)
	if n := len(want); n != 765 {
		t.Fatal(n)
	}
}

func TestP4_7Forget(t *testing.T) {
	j := newJoiner(t, 3, 9)
	d := docFragments([]byte("packet"), 7, 2)
	other := docFragments([]byte("packet"), 8, 2)
	isTake(t, j, 4, d[0], nil, false, api.OK)
	isTake(t, j, 5, d[0], nil, false, api.OK)
	isTake(t, j, 5, other[0], nil, false, api.OK)
	forget := func(from api.Addr, want int, wantE api.Errno) {
		t.Helper()
		if n, e := j.Forget(from); n != want || e != wantE {
			t.Errorf("Forget(%d): %d, %d; want %d, %d", from, n, e, want, wantE)
		}
	}
	forget(255, 0, api.ErrFragFrom)
	forget(3, 0, api.OK)
	isSlots(t, j, slot(4, 7, 1, 2, 0), slot(5, 7, 1, 2, 0), slot(5, 8, 1, 2, 0))
	forget(5, 2, api.OK)
	isSlots(t, j, slot(4, 7, 1, 2, 0))
	forget(5, 0, api.OK)
	isTake(t, j, 5, d[1], nil, false, api.OK)
	isTake(t, j, 4, d[1], []byte("packet"), true, api.OK)
	isSlots(t, j, slot(5, 7, 1, 2, 0))
	forget(4, 0, api.OK)
	forget(5, 1, api.OK)
	isSlots(t, j)
}

// traffic is a run of random calls: few sources, Ids and packets, so that they meet.
type traffic struct {
	rnd     *rand.Rand
	packets [][]byte
	sources []api.Addr
}

func newTraffic(rnd *rand.Rand) traffic {
	tr := traffic{rnd: rnd, sources: []api.Addr{0, 5, 16, 32, 33, 254, 255}}
	for range 4 {
		tr.packets = append(tr.packets, randomBytes(rnd, 4+rnd.Intn(40)))
	}
	for _, p := range tr.packets { // twins, which differ in one byte
		twin := bytes.Clone(p)
		twin[rnd.Intn(len(p))] ^= 1
		tr.packets = append(tr.packets, twin)
	}
	return tr
}

func (tr traffic) from() api.Addr { return tr.sources[tr.rnd.Intn(len(tr.sources))] }

func (tr traffic) datagram() []byte {
	packet := tr.packets[tr.rnd.Intn(len(tr.packets))]
	count := 1 + tr.rnd.Intn(4)
	d := docFragments(packet, uint64(tr.rnd.Intn(6)), count)
	if len(d) == 0 {
		return randomBytes(tr.rnd, 30)
	}
	one := d[tr.rnd.Intn(len(d))]
	if tr.rnd.Intn(12) == 0 {
		one[tr.rnd.Intn(len(one))] ^= 4
	}
	return one
}

func TestP4_4AnyTraffic(t *testing.T) {
	for seed := range int64(60) {
		rnd := rand.New(rand.NewSource(seed))
		tr := newTraffic(rnd)
		doc := &docJoiner{most: 1 + int(seed)%5, age: 1 + int(seed)%7}
		j := newJoiner(t, doc.most, doc.age)
		for range 2000 {
			switch rnd.Intn(40) {
			case 0:
				if n, want := j.Tick(), doc.tick(); n != want {
					t.Fatalf("seed %d: Tick: %d, want %d", seed, n, want)
				}
			case 1:
				from := tr.from()
				want, wantE := doc.forget(from)
				if n, e := j.Forget(from); n != want || e != wantE {
					t.Fatalf("seed %d: Forget(%d): %d, %d; want %d, %d", seed, from, n, e, want, wantE)
				}
			default:
				from, d := tr.from(), tr.datagram()
				packet, whole, e := doc.take(from, d)
				isTake(t, j, from, d, packet, whole, e)
			}
			isSlots(t, j, doc.told()...)
			if t.Failed() {
				t.FailNow()
			}
		}
	}
}

// One joiner takes the datagrams of all sources, others those of one source each: none tells the difference.
func TestP4_8Apart(t *testing.T) {
	for seed := range int64(20) {
		rnd := rand.New(rand.NewSource(seed))
		tr := newTraffic(rnd)
		all := newJoiner(t, 2, 4)
		alone := map[api.Addr]*frag.Joiner{}
		for _, from := range tr.sources {
			alone[from] = newJoiner(t, 2, 4)
		}
		for range 1000 {
			if rnd.Intn(20) == 0 {
				sum := 0
				for _, j := range alone {
					sum += j.Tick()
				}
				if n := all.Tick(); n != sum {
					t.Fatalf("seed %d: Tick: %d, of each alone %d", seed, n, sum)
				}
			}
			from, d := tr.from(), tr.datagram()
			packet, whole, e := alone[from].Take(from, d)
			isTake(t, all, from, d, packet, whole, e)
			var told []api.FragSlot
			for _, s := range tr.sources {
				told = append(told, alone[s].Slots()...)
			}
			isSlots(t, all, told...)
			if t.Failed() {
				t.FailNow()
			}
		}
	}
}

func TestNilJoiner(t *testing.T) {
	d := docFragments([]byte("one"), 7, 1)[0]
	for _, from := range []api.Addr{0, 5, 255} {
		var none *frag.Joiner
		isTake(t, none, from, d, nil, false, api.ErrNil)
		isTake(t, none, from, nil, nil, false, api.ErrNil)
		if n, e := none.Forget(from); n != 0 || e != api.ErrNil {
			t.Errorf("Forget(%d) of nil: %d, %d", from, n, e)
		}
		if n := none.Tick(); n != 0 {
			t.Errorf("Tick of nil: %d", n)
		}
		isSlots(t, none)
	}
}

// Nothing is said of a joiner that New did not make, but that it does not panic.
func TestUnmadeJoiner(t *testing.T) {
	j := &frag.Joiner{}
	for _, d := range docFragments([]byte("packet"), 7, 3) {
		j.Take(5, d)
		j.Tick()
		j.Slots()
		j.Take(5, d)
		j.Forget(5)
	}
}

// Later writing, by whomever, changes nothing that is kept or was answered.
func TestP4_9JoinerMemory(t *testing.T) {
	rnd := rand.New(rand.NewSource(49))
	for _, count := range []int{1, 2, 3, 90} {
		packet := randomBytes(rnd, min(4096, count*1000))
		j := newJoiner(t, 2, 3)
		var handed [][]byte
		var got []byte
		for _, d := range docFragments(packet, 7, count) {
			room := append(bytes.Clone(d), "spare"...)
			kept := bytes.Clone(room)
			b, whole, _ := j.Take(5, room[:len(d)])
			if !bytes.Equal(room, kept) {
				t.Fatal("Take changed its datagram")
			}
			spoil(room)
			handed = append(handed, room)
			if whole {
				got = b
			}
		}
		if !bytes.Equal(got, packet) {
			t.Fatalf("of %d fragments: the packet was changed from outside", count)
		}
		if !apart(append(handed, got)...) {
			t.Fatalf("of %d fragments: the packet shares memory with a datagram", count)
		}
		spoil(got)
		for i, d := range docFragments(packet, 7, count) {
			b, whole, e := j.Take(5, d)
			if e != api.OK || whole != (i == count-1) || whole && !bytes.Equal(b, packet) {
				t.Fatalf("of %d fragments: the second time: %v, %d", count, whole, e)
			}
		}
	}
}

func TestP4_9SlotsMemory(t *testing.T) {
	j := newJoiner(t, 2, 3)
	d := docFragments([]byte("packet"), 7, 2)
	isTake(t, j, 5, d[0], nil, false, api.OK)
	s := j.Slots()
	for i := range s[:cap(s)] {
		s[:cap(s)][i] = slot(1, 1, 1, 1, 1)
	}
	isSlots(t, j, slot(5, 7, 1, 2, 0))
}

func TestP4_9TwoJoiners(t *testing.T) {
	a, b := newJoiner(t, 2, 3), newJoiner(t, 2, 3)
	d := docFragments([]byte("packet"), 7, 2)
	isTake(t, a, 5, d[0], nil, false, api.OK)
	isTake(t, b, 5, d[1], nil, false, api.OK)
	a.Tick()
	isSlots(t, a, slot(5, 7, 1, 2, 1))
	isSlots(t, b, slot(5, 7, 1, 2, 0))
	a.Forget(5)
	isTake(t, b, 5, d[0], []byte("packet"), true, api.OK)
}
