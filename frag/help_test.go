package frag_test

import (
	"bytes"
	"encoding/binary"
	"hash/crc32"
	"math/rand"
	"slices"
	"testing"
	"unsafe"

	"shard/api"
	"shard/frag"
)

// What follows says the chapter's format and rules once more, in other words than the package.

func docSum(b []byte) []byte {
	return binary.BigEndian.AppendUint32(nil, crc32.Checksum(b, crc32.MakeTable(crc32.Castagnoli)))
}

func seal(b []byte) []byte { return slices.Concat(b, docSum(b)) }

// docDatagram lays down a fragment, whatever its shape.
func docDatagram(id uint64, total, index, count int, part []byte) []byte {
	b := binary.BigEndian.AppendUint64([]byte{0xd6, 0x01}, id)
	b = binary.BigEndian.AppendUint16(b, uint16(total))
	return seal(slices.Concat(b, []byte{byte(index), byte(count)}, part))
}

// docParts cuts a packet into count parts, or gives none if the last one would have no bytes.
func docParts(packet []byte, count int) [][]byte {
	size := len(packet) / count
	if len(packet)%count != 0 {
		size++
	}
	parts := slices.Collect(slices.Chunk(packet, size))
	if len(parts) != count {
		return nil
	}
	return parts
}

// docFragments gives the datagrams of a packet in count parts.
func docFragments(packet []byte, id uint64, count int) [][]byte {
	var out [][]byte
	for i, part := range docParts(packet, count) {
		out = append(out, docDatagram(id, len(packet), i, count, part))
	}
	return out
}

func docSplit(packet []byte, id uint64, mtu int) ([][]byte, api.Errno) {
	if mtu < 64 || mtu > 1024 {
		return nil, api.ErrMTU
	}
	if len(packet) == 0 || len(packet) > 4096 {
		return nil, api.ErrPacket
	}
	for count := 1; ; count++ {
		if count*(mtu-18) >= len(packet) {
			return docFragments(packet, id, count), api.OK
		}
	}
}

func docLook(d []byte) (api.Frag, api.Errno) {
	if len(d) < 19 || len(d) > 1024 || !bytes.HasPrefix(d, []byte{0xd6, 0x01}) {
		return api.Frag{}, api.ErrFrag
	}
	ahead := d[:len(d)-4]
	if !bytes.Equal(seal(ahead), d) {
		return api.Frag{}, api.ErrFragSum
	}
	f := api.Frag{Id: binary.BigEndian.Uint64(d[2:]), Total: int(binary.BigEndian.Uint16(d[10:])), Index: int(d[12]), Count: int(d[13]), Part: ahead[14:]}
	if f.Total == 0 || f.Total > 4096 || f.Count == 0 || f.Count > 128 {
		return api.Frag{}, api.ErrFrag
	}
	parts := docParts(make([]byte, f.Total), f.Count)
	if f.Index >= len(parts) || len(parts[f.Index]) != len(f.Part) {
		return api.Frag{}, api.ErrFrag
	}
	return f, api.OK
}

type docSlot struct {
	told  api.FragSlot
	total int
	parts map[int][]byte
}

// docJoiner keeps the slots of all sources in one list, in the order in which they were begun.
type docJoiner struct {
	most, age int
	slots     []*docSlot
}

func (j *docJoiner) remove(which func(*docSlot) bool) int {
	ahead := len(j.slots)
	j.slots = slices.DeleteFunc(j.slots, which)
	return ahead - len(j.slots)
}

func (j *docJoiner) take(from api.Addr, d []byte) ([]byte, bool, api.Errno) {
	if from == 255 {
		return nil, false, api.ErrFragFrom
	}
	f, e := docLook(d)
	if e != api.OK {
		return nil, false, e
	}
	if f.Count == 1 {
		return bytes.Clone(f.Part), true, api.OK
	}
	var s *docSlot
	var ofSource []*docSlot
	for _, x := range j.slots {
		if x.told.From == from {
			ofSource = append(ofSource, x)
			if x.told.Id == f.Id {
				s = x
			}
		}
	}
	switch {
	case s == nil:
		if len(ofSource) == j.most {
			j.remove(func(x *docSlot) bool { return x == ofSource[0] })
		}
		s = &docSlot{api.FragSlot{From: from, Id: f.Id, Count: f.Count}, f.Total, map[int][]byte{}}
		j.slots = append(j.slots, s)
	case s.total != f.Total || s.told.Count != f.Count:
		return nil, false, api.ErrClash
	case s.parts[f.Index] != nil && !bytes.Equal(s.parts[f.Index], f.Part):
		return nil, false, api.ErrClash
	}
	s.parts[f.Index] = bytes.Clone(f.Part)
	s.told.Got = len(s.parts)
	if s.told.Got < f.Count {
		return nil, false, api.OK
	}
	j.remove(func(x *docSlot) bool { return x == s })
	var packet []byte
	for i := range f.Count {
		packet = append(packet, s.parts[i]...)
	}
	return packet, true, api.OK
}

func (j *docJoiner) tick() int {
	for _, s := range j.slots {
		s.told.Age++
	}
	return j.remove(func(s *docSlot) bool { return s.told.Age >= j.age })
}

func (j *docJoiner) told() []api.FragSlot {
	var out []api.FragSlot
	for from := range 256 {
		for _, s := range j.slots {
			if int(s.told.From) == from {
				out = append(out, s.told)
			}
		}
	}
	return out
}

func (j *docJoiner) forget(from api.Addr) (int, api.Errno) {
	if from == 255 {
		return 0, api.ErrFragFrom
	}
	return j.remove(func(s *docSlot) bool { return s.told.From == from }), api.OK
}

func randomBytes(rnd *rand.Rand, n int) []byte {
	b := make([]byte, n)
	rnd.Read(b)
	return b
}

func newJoiner(t *testing.T, slots, age int) *frag.Joiner {
	t.Helper()
	j, e := frag.New(slots, age)
	if j == nil || e != api.OK {
		t.Fatalf("New(%d, %d): %v, %d", slots, age, j, e)
	}
	return j
}

// isTake holds Take's answer against the one that is wanted.
func isTake(t *testing.T, j *frag.Joiner, from api.Addr, d, packet []byte, whole bool, want api.Errno) {
	t.Helper()
	b, w, e := j.Take(from, d)
	if !bytes.Equal(b, packet) || w != whole || e != want {
		t.Errorf("Take(%d, % x): % x, %v, %d; want % x, %v, %d", from, d, b, w, e, packet, whole, want)
	}
}

func isSlots(t *testing.T, j *frag.Joiner, want ...api.FragSlot) {
	t.Helper()
	if got := j.Slots(); !slices.Equal(got, want) {
		t.Errorf("Slots: %v; want %v", got, want)
	}
}

// apart tells whether no two lists share a byte, spare room included.
func apart(lists ...[]byte) bool {
	type room struct{ first, behind uintptr }
	var rooms []room
	for _, l := range lists {
		if cap(l) > 0 {
			first := uintptr(unsafe.Pointer(unsafe.SliceData(l)))
			rooms = append(rooms, room{first, first + uintptr(cap(l))})
		}
	}
	slices.SortFunc(rooms, func(a, b room) int { return int(a.first) - int(b.first) })
	for i := 1; i < len(rooms); i++ {
		if rooms[i-1].behind > rooms[i].first {
			return false
		}
	}
	return true
}

// spoil writes over a list and its spare room.
func spoil(b []byte) {
	b = b[:cap(b)]
	for i := range b {
		b[i] ^= 0x5a
	}
}
