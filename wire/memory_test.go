package wire_test

import (
	"math/rand"
	"reflect"
	"slices"
	"testing"
	"unsafe"

	"shard/api"
	"shard/wire"
)

// A room is the memory of a list, spare room included.
type room struct{ first, behind uintptr }

func roomOf[T any](l []T) room {
	var x T
	first := uintptr(unsafe.Pointer(unsafe.SliceData(l)))
	return room{first, first + uintptr(cap(l))*unsafe.Sizeof(x)}
}

func roomsOf(m api.Message) []room {
	out := []room{roomOf(m.Value), roomOf(m.Old), roomOf(m.Payload), roomOf(m.Pairs), roomOf(m.Sessions)}
	for _, p := range m.Pairs {
		out = append(out, roomOf(p.Value))
	}
	return out
}

// allApart tells whether no two rooms share a byte.
func allApart(rooms []room) bool {
	rooms = slices.DeleteFunc(rooms, func(r room) bool { return r.first == r.behind })
	slices.SortFunc(rooms, func(a, b room) int {
		if a.first < b.first {
			return -1
		}
		return 1
	})
	for i := range rooms[:max(0, len(rooms)-1)] {
		if rooms[i].behind > rooms[i+1].first {
			return false
		}
	}
	return true
}

// grown is m with spare room in all of its lists, filled.
func grown(m api.Message) api.Message {
	m = flat(m)
	fill := func(b []byte) []byte { return append(slices.Clip(b), "spare"...)[:len(b)] }
	m.Value, m.Old, m.Payload = fill(m.Value), fill(m.Old), fill(m.Payload)
	for i := range m.Pairs {
		m.Pairs[i].Value = fill(m.Pairs[i].Value)
	}
	m.Pairs = append(m.Pairs, api.Pair{Key: 77})[:len(m.Pairs)]
	m.Sessions = append(m.Sessions, api.Session{Seq: 77})[:len(m.Sessions)]
	return m
}

// whole shows the spare room of the lists too.
func whole(m api.Message) api.Message {
	all := func(b []byte) []byte { return b[:cap(b)] }
	m.Value, m.Old, m.Payload = all(m.Value), all(m.Old), all(m.Payload)
	m.Pairs = m.Pairs[:cap(m.Pairs)]
	m.Sessions = m.Sessions[:cap(m.Sessions)]
	m = flat(m)
	for i, p := range m.Pairs {
		m.Pairs[i].Value = all(p.Value)
	}
	return m
}

func TestP3_11WhatIsHandedInStays(t *testing.T) {
	rnd := rand.New(rand.NewSource(3111))
	for _, m := range samples(rnd, 60) {
		m = grown(m)
		if rnd.Intn(3) == 0 {
			m = bent(rnd, m)
		}
		before := flat(whole(m))
		e := wire.Check(m)
		wire.Size(m)
		b, _ := wire.Marshal(m)
		wire.Print(m)
		if !reflect.DeepEqual(flat(whole(m)), before) {
			t.Fatalf("a message has been changed: %+v, before: %+v", m, before)
		}
		if e != api.OK {
			continue
		}
		handed := append(slices.Clone(b), 1, 2, 3)
		wire.Parse(handed[:len(b)])
		if !slices.Equal(handed, append(slices.Clone(b), 1, 2, 3)) {
			t.Fatalf("the bytes %v have been changed", b)
		}
	}
}

func TestP3_11AnswersAreNewMemory(t *testing.T) {
	rnd := rand.New(rand.NewSource(3112))
	for _, m := range samples(rnd, 60) {
		m = grown(m)
		b, again := marshal(t, m), marshal(t, m)
		// All lists are held until the last one is there: the memory of one that is let go may become another's.
		held := []api.Message{m, {Payload: b}, {Payload: again}}
		for range 2 {
			parsed, _, _ := wire.Parse(b)
			read, _, _ := wire.Read(print(t, m))
			held = append(held, parsed, read)
		}
		var rooms []room
		for _, one := range held {
			rooms = append(rooms, roomsOf(one)...)
		}
		if !allApart(rooms) {
			t.Fatalf("lists of the calls on %+v share memory", m)
		}
		s, same := print(t, m), print(t, m)
		if unsafe.StringData(s) == unsafe.StringData(same) {
			t.Fatalf("two lines of %+v are one memory", m)
		}
	}
}

// What is done to the bytes later is not seen by the message, nor the other way.
func TestP3_11NothingIsKept(t *testing.T) {
	rnd := rand.New(rand.NewSource(3113))
	for _, m := range samples(rnd, 60) {
		b := marshal(t, m)
		got, _, _ := wire.Parse(b)
		for i := range b {
			b[i] ^= 255
		}
		if !alike(got, m) {
			t.Fatalf("the message %+v has changed with its bytes", m)
		}
	}
}
