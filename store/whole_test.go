package store_test

import (
	"math"
	"math/rand"
	"testing"

	"shard/api"
)

// Many calls, one behind another, after each of which the document's shelf is held against it.
func TestP7_8To7_15RandomCalls(t *testing.T) {
	rnd := rand.New(rand.NewSource(78))
	key := func() uint64 {
		if rnd.Intn(4) == 0 {
			return edges[rnd.Intn(len(edges))]
		}
		return uint64(rnd.Intn(40))
	}
	for _, most := range []int{0, 1, 5, 20, 60} {
		s, want := newShelf(t, most), newDocShelf(most)
		var cut []api.Pair
		for range 1500 {
			k, lo, hi := key(), key(), key()
			switch rnd.Intn(8) {
			case 0, 1, 2, 3:
				value := long(rnd.Intn(70))
				created, e := want.set(k, value)
				isSet(t, s, k, value, created, e)
			case 4:
				if got := s.Delete(k); got != want.delete(k) {
					t.Errorf("Delete(%d): %v", k, got)
				}
			case 5:
				list, e := want.cut(lo, hi)
				isCut(t, s, lo, hi, list, e)
				cut = list
			case 6:
				isErr(t, s.Lay(cut), want.lay(cut))
			case 7:
				var list []api.Pair
				for range rnd.Intn(4) {
					k += uint64(rnd.Intn(12))
					list = append(list, pair(k, string(long(rnd.Intn(66)))))
				}
				isErr(t, s.Lay(list), want.lay(list))
			}
			isShelf(t, s, want.within(0, top)...)
			isSpan(t, s, want, lo, hi)
		}
	}
}

func TestP7_16ValuesAreCopiedIn(t *testing.T) {
	s := newShelf(t, 9)
	given := append(make([]byte, 0, 9), "own"...)
	isSet(t, s, 7, given, true, api.OK)
	if string(given[:9]) != "own\x00\x00\x00\x00\x00\x00" {
		t.Errorf("Set made %q of what it was given", given[:9])
	}
	spoil(given, '!')
	isGet(t, s, 7, "own", true)

	list := append(make([]api.Pair, 0, 4), pair(1, "one"), pair(2, "two"))
	isErr(t, s.Lay(list), api.OK)
	isPairs(t, list[:4], pair(1, "one"), pair(2, "two"), api.Pair{}, api.Pair{})
	spoilPairs(list)
	isShelf(t, s, pair(1, "one"), pair(2, "two"), pair(7, "own"))

	isSet(t, s, 7, []byte("o"), false, api.OK)
	if given[0] != '!' {
		t.Errorf("Set wrote %q into what it was given", given)
	}
}

func TestP7_16ValuesAreCopiedOut(t *testing.T) {
	want := []api.Pair{pair(1, "one"), pair(2, "two"), pair(3, string(long(64)))}
	s := shelfOf(t, 9, want...)
	one, _ := s.Get(1)
	other, _ := s.Get(1)
	first, _ := s.Scan(0, 9, 9)
	second, _ := s.Scan(0, 9, 2)
	isApart(t, [][]byte{one, other}, first, second)
	spoil(one, '!')
	spoil(other, '!')
	spoilPairs(first)
	spoilPairs(second)
	isShelf(t, s, want...)

	cut, _ := s.Cut(0, 2)
	isApart(t, nil, cut)
	isErr(t, s.Lay(cut), api.OK)
	spoilPairs(cut)
	isShelf(t, s, want...)

	// What is cut out is the caller's, whatever is laid in later.
	cut, _ = s.Cut(1, 1)
	isErr(t, s.Lay(cut), api.OK)
	isSet(t, s, 1, []byte("new"), false, api.OK)
	isPairs(t, cut, pair(1, "one"))
}

// isApart holds that no two values or lists of some answers share memory.
func isApart(t *testing.T, values [][]byte, lists ...[]api.Pair) {
	t.Helper()
	for i, list := range lists {
		for _, other := range lists[:i] {
			if !apart(list, other) {
				t.Error("two lists share memory")
			}
		}
		for _, p := range list {
			values = append(values, p.Value)
		}
	}
	for i, value := range values {
		for _, other := range values[:i] {
			if !apart(value, other) {
				t.Errorf("two values share memory: %q, %q", value, other)
			}
		}
	}
}

// Work that grew with the square of what is held would not come to an end here.
func TestP7_16WorkOnMuch(t *testing.T) {
	s := newShelf(t, roomy)
	for i := range roomy {
		isSet(t, s, uint64(i), long(i%65), true, api.OK)
	}
	sum := s.Digest(0, top)
	for range 10 {
		all, e := s.Cut(0, top)
		isErr(t, e, api.OK)
		isNumber(t, len(all), roomy)
		isErr(t, s.Lay(all), api.OK)
		isNumber(t, s.Digest(0, top), sum)
	}
	for i := range 200000 {
		lo := uint64(i) * 7919 % roomy
		isNumber(t, s.Count(lo, top), roomy-int(lo))
		isNth(t, s, lo, top, 0, lo, true)
		list, more := s.Scan(lo, top, 1)
		if len(list) != 1 || list[0].Key != lo || more != (lo < roomy-1) {
			t.Fatalf("Scan from %d: %v, %v", lo, list, more)
		}
	}
	isScan(t, s, roomy, top, math.MaxInt, nil, false)
}
