package store

import (
	"bytes"

	"shard/api"
)

// Shelf holds pairs of a key and bytes.
type Shelf struct {
	most  int
	bytes int
	// pairs has values of the shelf's own: none of them came in, and none goes out, but as a copy.
	pairs *Map[uint64, []byte]
}

// NewShelf makes a shelf for at most so many pairs.
func NewShelf(most int) (*Shelf, api.Errno) {
	if most < 0 || most > api.MaxShelf {
		return nil, api.ErrArg
	}
	return &Shelf{most: most, pairs: NewOrdered[uint64, []byte]()}, api.OK
}

// made tells whether this package made the shelf: every shelf that it makes has a map.
func (s *Shelf) made() bool { return s != nil && s.pairs != nil }

// held gives the map of the pairs, none of a shelf that is none: such a map answers that there is nothing.
func (s *Shelf) held() *Map[uint64, []byte] {
	if s == nil {
		return nil
	}
	return s.pairs
}

// room tells how many pairs more there may be.
func (s *Shelf) room() int { return s.most - s.Len() }

func mayBeValue(value []byte) bool { return len(value) <= api.MaxValue }

// Set lays a value in; whether the key is new.
func (s *Shelf) Set(key uint64, value []byte) (bool, api.Errno) {
	if !s.made() {
		return false, api.ErrNil
	}
	if !mayBeValue(value) {
		return false, api.ErrValue
	}
	old, there := s.pairs.Get(key)
	if !there && s.room() == 0 {
		return false, api.ErrShelf
	}
	s.pairs.Put(key, bytes.Clone(value))
	s.bytes += len(value) - len(old)
	return !there, api.OK
}

// Get tells a key's value, and whether there is one.
func (s *Shelf) Get(key uint64) ([]byte, bool) {
	value, there := s.held().Get(key)
	return bytes.Clone(value), there
}

// Delete takes a key out; whether there was one.
func (s *Shelf) Delete(key uint64) bool {
	old, there := s.held().Delete(key)
	if there {
		s.bytes -= len(old)
	}
	return there
}

// Len tells how many pairs there are.
func (s *Shelf) Len() int { return s.held().Len() }

// Bytes tells how many bytes the values have.
func (s *Shelf) Bytes() int {
	if s == nil {
		return 0
	}
	return s.bytes
}
