package audit_test

import (
	"bytes"
	"slices"
	"testing"

	"shard/api"
	"shard/audit"
	"shard/store"
)

func isUnion(t *testing.T, p api.Picture, want ...api.Pair) {
	t.Helper()
	got, e := audit.Union(p)
	isShown(t, "Union", got, e, want, api.OK)
	isShown(t, "the chapter's", docUnion(p), api.OK, want, api.OK)
}

func TestP16_5Examples(t *testing.T) {
	isUnion(t, started(2))
	isUnion(t, handed(t), pair(7, "x"))
	isUnion(t, installed(t), pair(7, "x"))
}

// Pairs of a host whose keys it does not own are left out.
func TestP16_5Strays(t *testing.T) {
	p := started(2)
	p.Hosts[0].Table = []api.Segment{seg(0, 9, 0), seg(10, 19, 1), seg(20, top, 0)}
	p.Hosts[0].Pairs = []api.Pair{pair(0, "a"), pair(9, "b"), pair(10, "c"), pair(19, "d"), pair(20, "e"), pair(top, "f")}
	isUnion(t, p, pair(0, "a"), pair(9, "b"), pair(20, "e"), pair(top, "f"))
	p.Hosts[1].Pairs = []api.Pair{pair(10, "g"), pair(11, "h")}
	isUnion(t, p, pair(0, "a"), pair(9, "b"), pair(20, "e"), pair(top, "f"))
	p.Hosts[1].Table = []api.Segment{seg(0, 10, 1), seg(11, top, 0)}
	isUnion(t, p, pair(0, "a"), pair(9, "b"), pair(10, "g"), pair(20, "e"), pair(top, "f"))
}

// Of one key, the hosts' pairs stand ahead of the flights', by rising host, by rising number of flight.
func TestP16_5Order(t *testing.T) {
	p := started(4)
	for h := range p.Hosts {
		p.Hosts[h].Table = []api.Segment{seg(0, top, api.Addr(h))}
		p.Hosts[h].Pairs = []api.Pair{pair(5, string(rune('9'-h))), pair(6+uint64(h)%2, string(rune('5'-h)))}
	}
	queued(&p, 2, 0, 7, packet(t, delegate(0, 9, pair(5, "d"), pair(8, "e"))), packet(t, delegate(5, 5, pair(5, "c"))))
	queued(&p, 0, 3, 9, packet(t, delegate(4, 9, pair(4, "a"), pair(5, "z"))), packet(t, delegate(5, 6, pair(5, "y"), pair(6, "f"))))
	isUnion(t, p, pair(4, "a"), pair(5, "9"), pair(5, "8"), pair(5, "7"), pair(5, "6"), pair(5, "z"), pair(5, "y"), pair(5, "d"), pair(5, "c"), pair(6, "5"), pair(6, "3"), pair(6, "f"), pair(7, "4"), pair(7, "2"), pair(8, "e"))
}

// Many pairs of few keys stay in their order.
func TestP16_5ManyOfOneKey(t *testing.T) {
	p := started(16)
	p.Config.Queue, p.Config.Window = 16, 16
	var want [3][]api.Pair
	for h := range p.Hosts {
		p.Hosts[h].Table = []api.Segment{seg(0, top, api.Addr(h))}
		for key := range uint64(3) {
			x := api.Pair{Key: key, Value: []byte{byte(h), byte(key)}}
			p.Hosts[h].Pairs = append(p.Hosts[h].Pairs, x)
			want[key] = append(want[key], x)
		}
	}
	for a := range 16 {
		for b := range 16 {
			var payloads [][]byte
			for n := range 16 {
				var list []api.Pair
				for key := range uint64(3) {
					x := api.Pair{Key: key, Value: []byte{byte(a), byte(b), byte(n)}}
					list = append(list, x)
					if a != b {
						want[key] = append(want[key], x)
					}
				}
				payloads = append(payloads, packet(t, delegate(0, 9, list...)))
			}
			if a != b {
				queued(&p, a, b, 0, payloads...)
			}
		}
	}
	isUnion(t, p, slices.Concat(want[:]...)...)
}

func TestP16_6Examples(t *testing.T) {
	isSame(t, "of no pairs", audit.Digest(nil), uint64(0xcbf29ce484222325))
	isSame(t, "of no pairs", audit.Digest([]api.Pair{}), uint64(0xcbf29ce484222325))
}

// The bytes are laid down by hand here, and their sums were worked out by the published rule.
func TestP16_6Bytes(t *testing.T) {
	sum := func(b ...byte) uint64 {
		h := uint64(14695981039346656037)
		for _, x := range b {
			h ^= uint64(x)
			h *= 1099511628211
		}
		return h
	}
	isSame(t, "one", audit.Digest([]api.Pair{pair(0x0102030405060708, "ab")}), sum(1, 2, 3, 4, 5, 6, 7, 8, 0, 2, 'a', 'b'))
	isSame(t, "empty", audit.Digest([]api.Pair{pair(7, "")}), sum(0, 0, 0, 0, 0, 0, 0, 7, 0, 0))
	isSame(t, "nil", audit.Digest([]api.Pair{{Key: 7}}), sum(0, 0, 0, 0, 0, 0, 0, 7, 0, 0))
	isSame(t, "two", audit.Digest([]api.Pair{pair(top, "z"), pair(0, "")}), sum(255, 255, 255, 255, 255, 255, 255, 255, 0, 1, 'z', 0, 0, 0, 0, 0, 0, 0, 0, 0, 0))
	isSame(t, "falling, twice", audit.Digest([]api.Pair{pair(2, ""), pair(1, ""), pair(1, "")}), sum(0, 0, 0, 0, 0, 0, 0, 2, 0, 0, 0, 0, 0, 0, 0, 0, 0, 1, 0, 0, 0, 0, 0, 0, 0, 0, 0, 1, 0, 0))
}

// Any length, also above what a value may have; it counts modulo 65536.
func TestP16_6Lengths(t *testing.T) {
	for _, n := range []int{0, 1, 63, 64, 65, 255, 256, 257, 65535, 65536, 65537, 131071, 131072, 1 << 20} {
		value := bytes.Repeat([]byte{7}, n)
		head := []byte{0, 0, 0, 0, 0, 0, 0, 9, byte(n >> 8), byte(n)}
		h := uint64(14695981039346656037)
		for _, x := range append(head, value...) {
			h = (h ^ uint64(x)) * 1099511628211
		}
		isSame(t, "Digest", audit.Digest([]api.Pair{{Key: 9, Value: value}}), h)
	}
}

// A shelf's digest is of the same bytes.
func TestP16_6LikeAShelf(t *testing.T) {
	for seed := range 300 {
		pairs := diceOf(seed).pairs(20)
		s, _ := store.NewShelf(len(pairs))
		isSame(t, "Lay", s.Lay(pairs), api.OK)
		isSame(t, "Digest", audit.Digest(pairs), s.Digest(0, top))
	}
}

func areSame(t *testing.T, a, b api.Picture, want bool) {
	t.Helper()
	isSame(t, "Same", []bool{audit.Same(a, b), audit.Same(b, a), docSame(a, b)}, []bool{want, want, want})
}

func TestP16_9Same(t *testing.T) {
	areSame(t, handed(t), handed(t), true)
	areSame(t, handed(t), installed(t), true)
	areSame(t, started(2), started(2), true)
	areSame(t, started(2), started(5), true) // no pairs here, none there
	areSame(t, started(2), handed(t), false)
}

func TestP16_9PairByPair(t *testing.T) {
	of := func(pairs ...api.Pair) api.Picture {
		p := started(1)
		p.Hosts[0].Pairs = pairs
		return p
	}
	areSame(t, of(pair(1, "a"), pair(2, "b")), of(pair(1, "a"), pair(2, "b")), true)
	areSame(t, of(pair(1, "a"), pair(2, "b")), of(pair(1, "a"), pair(2, "c")), false)
	areSame(t, of(pair(1, "a"), pair(2, "b")), of(pair(1, "a"), pair(3, "b")), false)
	areSame(t, of(pair(1, "a"), pair(2, "b")), of(pair(1, "a")), false)
	areSame(t, of(pair(1, "a"), pair(2, "b")), of(pair(2, "b")), false)
	areSame(t, of(pair(1, "")), of(api.Pair{Key: 1}), true)
	areSame(t, of(pair(1, "")), of(), false)
	areSame(t, of(pair(1, "")), of(pair(1, "\x00")), false)
	areSame(t, of(), of(), true)
}

// What is not in the Union does not count: strays, credits, tables, sessions; a pair that is there twice does.
func TestP16_9WhatCounts(t *testing.T) {
	a, b := installed(t), installed(t)
	b.Hosts[0].Pairs = []api.Pair{pair(3, "stray")}
	b.Hosts[0].Free, b.Hosts[1].Spare = -9, 99
	b.Hosts[0].Sessions = []api.Session{{Client: 16, Seq: 1, Status: api.StOK}}
	areSame(t, a, b, true)
	b.Hosts[0].Table = []api.Segment{seg(0, top, 0)} // it owns the stray now
	areSame(t, a, b, false)
	b = installed(t)
	b.Hosts[1].End.Peers[0].Delivered = 0 // the delegation is live still
	areSame(t, a, b, false)
	isUnion(t, b, pair(7, "x"), pair(7, "x"))
}

// Both must be allowed, also if they are the same.
func TestP16_9MayNotBe(t *testing.T) {
	bad := installed(t)
	bad.Hosts[0].Free = 1<<31 + 1
	areSame(t, bad, installed(t), false)
	areSame(t, bad, bad, false)
	areSame(t, api.Picture{}, api.Picture{}, false)
	areSame(t, api.Picture{}, started(1), false)
}

func TestP16_9Random(t *testing.T) {
	count := 0
	for seed := range 2000 {
		d := diceOf(seed)
		a := d.picture(t)
		b := copied(a)
		s := &b.Hosts[d.Intn(len(b.Hosts))]
		switch d.Intn(5) {
		case 0:
			s.Table = d.table(len(b.Hosts))
		case 1:
			s.Pairs = d.pairs(3)
		case 2:
			s.Free, s.Spare, s.Sessions = d.credits(), d.credits(), []api.Session{{Client: 20}}
		case 3:
			peer := &s.End.Peers[d.Intn(len(b.Hosts))]
			if peer.Delivered++; len(peer.Early) > 0 {
				peer.Early[0].Payload = d.payload(t)
			}
		case 4:
			b = d.picture(t)
		}
		want := docSame(a, b)
		if want {
			count++
		}
		areSame(t, a, b, want)
	}
	if count < 200 || count > 1800 {
		t.Errorf("%d of 2000 were the same", count)
	}
}
