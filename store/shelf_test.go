package store_test

import (
	"math"
	"testing"

	"shard/api"
	"shard/store"
)

func TestP7_8NewShelf(t *testing.T) {
	for _, most := range []int{-1, 32769, math.MinInt, math.MaxInt, 1 << 32} {
		if s, e := store.NewShelf(most); s != nil || e != api.ErrArg {
			t.Errorf("NewShelf(%d): %v, %d", most, s, e)
		}
	}
	for _, most := range []int{0, 1, 2, 32767, roomy} {
		isShelf(t, newShelf(t, most))
	}
}

// The document's third example.
func TestP7_9To7_14Example(t *testing.T) {
	s := newShelf(t, 2)
	isSet(t, s, 7, []byte("x"), true, api.OK)
	isSet(t, s, 7, nil, false, api.OK)
	isSet(t, s, 9, []byte("y"), true, api.OK)
	isSet(t, s, 8, []byte("z"), false, api.ErrShelf)
	isSet(t, s, 8, long(65), false, api.ErrValue)
	isNumber(t, s.Bytes(), 1)
	isScan(t, s, 0, top, 1, []api.Pair{pair(7, "")}, true)
	isCut(t, s, 8, 9, []api.Pair{pair(9, "y")}, api.OK)
	isErr(t, s.Lay([]api.Pair{pair(9, "y"), pair(8, "z")}), api.ErrRising)
	isErr(t, s.Lay([]api.Pair{pair(7, "q")}), api.ErrThere)
	isErr(t, s.Lay([]api.Pair{pair(8, "a"), pair(9, "b")}), api.ErrShelf)
	isShelf(t, s, pair(7, ""))
}

func TestP7_8EachBoundHolds(t *testing.T) {
	for most := range 6 {
		s := newShelf(t, most)
		for key := range most {
			isSet(t, s, uint64(key), []byte("v"), true, api.OK)
		}
		isSet(t, s, 100, nil, false, api.ErrShelf)
		isErr(t, s.Lay([]api.Pair{pair(100, "")}), api.ErrShelf)
		isErr(t, s.Lay(nil), api.OK)
		isNumber(t, s.Len(), most)
		isNumber(t, s.Bytes(), most)
		for key := range most {
			isSet(t, s, uint64(key), []byte("vv"), false, api.OK)
		}
		if most > 0 {
			s.Delete(0)
			isSet(t, s, 100, nil, true, api.OK)
			isSet(t, s, 0, nil, false, api.ErrShelf)
		}
	}
}

func TestP7_8TheGreatestShelf(t *testing.T) {
	s := newShelf(t, roomy)
	pairs := make([]api.Pair, roomy+1)
	for i := range pairs {
		pairs[i] = pair(uint64(i)<<48, "12")
	}
	isErr(t, s.Lay(pairs), api.ErrShelf)
	isNumber(t, s.Len(), 0)
	isErr(t, s.Lay(pairs[:roomy]), api.OK)
	isNumber(t, s.Len(), roomy)
	isNumber(t, s.Bytes(), 2*roomy)
	isSet(t, s, 1, nil, false, api.ErrShelf)
	isSet(t, s, 0, nil, false, api.OK)
	isNumber(t, s.Bytes(), 2*roomy-2)
	cut, e := s.Cut(1, top)
	isErr(t, e, api.OK)
	isNumber(t, len(cut), roomy-1)
	isShelf(t, s, pair(0, ""))
}

func TestP7_9ValuesOfEachLength(t *testing.T) {
	s := newShelf(t, 2)
	for n := range 70 {
		for _, key := range []uint64{0, top} {
			if n <= longest {
				isSet(t, s, key, long(n), n == 0, api.OK)
				isGet(t, s, key, string(long(n)), true)
			} else {
				isSet(t, s, key, long(n), false, api.ErrValue)
				isGet(t, s, key, string(long(longest)), true)
			}
		}
		isNumber(t, s.Bytes(), 2*min(n, longest))
	}
	isSet(t, s, 5, long(1<<20), false, api.ErrValue)
	isSet(t, s, 5, long(longest), false, api.ErrShelf)
	isGet(t, s, 5, "", false)
	isSet(t, s, top, nil, false, api.OK)
	isShelf(t, s, pair(0, string(long(longest))), pair(top, ""))
}

func TestP7_9Delete(t *testing.T) {
	s := shelfOf(t, 9, pair(0, "a"), pair(5, ""), pair(top, "ccc"))
	for _, key := range []uint64{1, 4, 6, top - 1} {
		if s.Delete(key) {
			t.Errorf("Delete(%d)", key)
		}
	}
	isShelf(t, s, pair(0, "a"), pair(5, ""), pair(top, "ccc"))
	for _, key := range []uint64{top, 0, 5} {
		if !s.Delete(key) || s.Delete(key) {
			t.Errorf("Delete(%d)", key)
		}
		isGet(t, s, key, "", false)
	}
	isShelf(t, s)
	isSet(t, s, 5, []byte("new"), true, api.OK)
	isShelf(t, s, pair(5, "new"))
}

// isNoShelf holds a shelf that is none to what the document says of a nil one.
func isNoShelf(t *testing.T, s *store.Shelf) {
	t.Helper()
	isSet(t, s, 1, nil, false, api.ErrNil)
	isSet(t, s, 1, long(65), false, api.ErrNil)
	isShelf(t, s)
	for _, key := range []uint64{0, 1, top} {
		isGet(t, s, key, "", false)
		if s.Delete(key) {
			t.Errorf("Delete(%d)", key)
		}
		for _, hi := range []uint64{0, 1, top} {
			isSpan(t, s, newDocShelf(0), key, hi)
			isNumber(t, s.Digest(key, hi), hashOfNone)
			isCut(t, s, key, hi, nil, api.ErrNil)
		}
	}
	isErr(t, s.Lay(nil), api.ErrNil)
	isErr(t, s.Lay([]api.Pair{pair(2, ""), pair(1, "")}), api.ErrNil)
}

func TestP7_9To7_15NilShelf(t *testing.T) { isNoShelf(t, nil) }

// Of one that the package did not make nothing is promised but that it does not panic.
func TestP7_16ShelfThatThePackageDidNotMake(t *testing.T) { isNoShelf(t, &store.Shelf{}) }
