package store

import (
	"bytes"

	"shard/api"
	"shard/codec"
)

// Count tells how many pairs lie from lo to hi.
func (s *Shelf) Count(lo uint64, hi uint64) int {
	if lo > hi {
		return 0
	}
	m := s.held()
	from, to := m.span(m.tree(), lo, hi)
	return to - from
}

// Scan tells the first pairs from lo to hi, and whether there are more.
func (s *Shelf) Scan(lo uint64, hi uint64, limit int) ([]api.Pair, bool) {
	count := s.Count(lo, hi)
	told := min(count, max(limit, 0))
	return s.copies(lo, hi, told), told < count
}

// copies gives the first pairs from lo to hi, as many as are asked for: there must be so many.
func (s *Shelf) copies(lo, hi uint64, many int) []api.Pair {
	list := make([]api.Pair, 0, many)
	for key, value := range s.held().Between(lo, hi) {
		if len(list) == many {
			break
		}
		list = append(list, api.Pair{Key: key, Value: bytes.Clone(value)})
	}
	return list
}

// Nth tells the key from lo to hi with i such keys below it.
func (s *Shelf) Nth(lo uint64, hi uint64, i int) (uint64, bool) {
	if i < 0 || i >= s.Count(lo, hi) {
		return 0, false
	}
	m := s.held()
	key, _, there := m.At(m.Rank(lo) + i)
	return key, there
}

// Cut takes the pairs from lo to hi out.
func (s *Shelf) Cut(lo uint64, hi uint64) ([]api.Pair, api.Errno) {
	if !s.made() {
		return nil, api.ErrNil
	}
	if lo > hi {
		return nil, api.ErrSpan
	}
	pairs := s.copies(lo, hi, s.Count(lo, hi))
	for _, p := range pairs {
		s.Delete(p.Key)
	}
	return pairs, api.OK
}

// Lay lays pairs in, all or none.
func (s *Shelf) Lay(pairs []api.Pair) api.Errno {
	if e := s.bars(pairs); e != api.OK {
		return e
	}
	for _, p := range pairs {
		s.Set(p.Key, p.Value)
	}
	return api.OK
}

// bars tells what keeps pairs from being laid in. Each reason is asked of all of them ahead of the next reason.
func (s *Shelf) bars(pairs []api.Pair) api.Errno {
	if !s.made() {
		return api.ErrNil
	}
	for i, p := range pairs {
		if i > 0 && p.Key <= pairs[i-1].Key {
			return api.ErrRising
		}
	}
	for _, p := range pairs {
		if !mayBeValue(p.Value) {
			return api.ErrValue
		}
	}
	for _, p := range pairs {
		if _, there := s.pairs.Get(p.Key); there {
			return api.ErrThere
		}
	}
	if len(pairs) > s.room() {
		return api.ErrShelf
	}
	return api.OK
}

// Digest gives a sum of the pairs from lo to hi.
func (s *Shelf) Digest(lo uint64, hi uint64) uint64 {
	sum := codec.Fnv(nil)
	for key, value := range s.held().Between(lo, hi) {
		sum = codec.FnvMore(sum, bytesOf(key, value))
	}
	return sum
}

// bytesOf gives the bytes of a pair of which the digest is made.
func bytesOf(key uint64, value []byte) []byte {
	// The room is what the greatest pair takes, so that no error can stand.
	w, _ := codec.NewWriter(8 + 2 + api.MaxValue)
	w.U64(key)
	w.U16(uint16(len(value)))
	w.Raw(value)
	out, _ := w.Out()
	return out
}
