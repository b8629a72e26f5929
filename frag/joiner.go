package frag

import (
	"maps"
	"slices"

	"shard/api"
)

// place is whose a slot is: a source, and the number that this source gave to a packet.
type place struct {
	from api.Addr
	id   uint64
}

// Joiner puts packets together.
type Joiner struct {
	most  int
	age   int
	slots map[place]*slot
	begun map[api.Addr][]uint64 // the Ids of each source's slots, in the order in which these were begun
}

// New makes a joiner: so many unfinished packets a source, kept for so many ticks.
func New(slots int, age int) (*Joiner, api.Errno) {
	if slots < 1 || slots > api.MaxSlots || age < 1 || age > api.MaxAge {
		return nil, api.ErrArg
	}
	return &Joiner{most: slots, age: age, slots: map[place]*slot{}, begun: map[api.Addr][]uint64{}}, api.OK
}

// made tells whether New made this joiner: one that it did not make has no maps to write into.
func (j *Joiner) made() bool { return j != nil && j.slots != nil }

// Take takes a datagram; a packet, if it is whole now.
func (j *Joiner) Take(from api.Addr, datagram []byte) ([]byte, bool, api.Errno) {
	if !j.made() {
		return nil, false, api.ErrNil
	}
	if from == api.NoOne {
		return nil, false, api.ErrFragFrom
	}
	f, e := Look(datagram)
	if e != api.OK {
		return nil, false, e
	}
	if f.Count == 1 {
		return f.Part, true, api.OK
	}
	return j.join(from, f)
}

// join lays one of several fragments into its slot.
func (j *Joiner) join(from api.Addr, f api.Frag) ([]byte, bool, api.Errno) {
	at := place{from, f.Id}
	s := j.slots[at]
	if s == nil {
		s = j.begin(at, f)
	}
	if e := s.put(f); e != api.OK || !s.whole() {
		return nil, false, e
	}
	j.drop(at)
	return s.out(), true, api.OK
}

// begin makes room for a slot, and the slot, still without a part.
func (j *Joiner) begin(at place, f api.Frag) *slot {
	if ids := j.begun[at.from]; len(ids) == j.most {
		j.drop(place{at.from, ids[0]})
	}
	s := &slot{packet: make([]byte, f.Total), has: make([]bool, f.Count)}
	j.slots[at] = s
	j.begun[at.from] = append(j.begun[at.from], at.id)
	return s
}

// drop lets a slot go.
func (j *Joiner) drop(at place) {
	delete(j.slots, at)
	left := slices.DeleteFunc(j.begun[at.from], func(id uint64) bool { return id == at.id })
	j.begun[at.from] = left
	if len(left) == 0 {
		delete(j.begun, at.from)
	}
}

// Tick lets time go by; how many unfinished packets are given up.
func (j *Joiner) Tick() int {
	if !j.made() {
		return 0
	}
	gone := 0
	for at, s := range j.slots {
		s.age++
		if s.age == j.age {
			j.drop(at)
			gone++
		}
	}
	return gone
}

// Slots tells the unfinished packets.
func (j *Joiner) Slots() []api.FragSlot {
	if !j.made() {
		return nil
	}
	told := make([]api.FragSlot, 0, len(j.slots))
	for _, from := range slices.Sorted(maps.Keys(j.begun)) {
		for _, id := range j.begun[from] {
			s := j.slots[place{from, id}]
			told = append(told, api.FragSlot{From: from, Id: id, Got: s.got, Count: len(s.has), Age: s.age})
		}
	}
	return told
}

// Forget gives up a source's unfinished packets; how many.
func (j *Joiner) Forget(from api.Addr) (int, api.Errno) {
	if !j.made() {
		return 0, api.ErrNil
	}
	if from == api.NoOne {
		return 0, api.ErrFragFrom
	}
	ids := j.begun[from]
	for _, id := range ids {
		delete(j.slots, place{from, id})
	}
	delete(j.begun, from)
	return len(ids), api.OK
}
