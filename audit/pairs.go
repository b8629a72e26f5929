package audit

import (
	"bytes"
	"cmp"
	"slices"

	"shard/api"
	"shard/codec"
)

// Union tells all pairs.
func Union(p api.Picture) ([]api.Pair, api.Errno) {
	all, e := hostsOf(p)
	if e != api.OK {
		return nil, e
	}
	var union []api.Pair
	for _, h := range all {
		union = append(union, h.ownPairs()...)
	}
	for _, f := range all.flights() {
		union = append(union, f.M.Pairs...)
	}
	// Pairs of one key stay in the order in which they were gathered.
	slices.SortStableFunc(union, func(a, b api.Pair) int { return cmp.Compare(a.Key, b.Key) })
	return union, api.OK
}

// ownPairs gives copies of a host's pairs whose keys it owns.
func (h host) ownPairs() []api.Pair {
	var own []api.Pair
	for _, p := range h.Pairs {
		if h.owns(p.Key) {
			own = append(own, api.Pair{Key: p.Key, Value: bytes.Clone(p.Value)})
		}
	}
	return own
}

// Same tells whether two pictures have the same pairs.
func Same(a api.Picture, b api.Picture) bool {
	here, e := Union(a)
	there, f := Union(b)
	return e == api.OK && f == api.OK && slices.EqualFunc(here, there, isSamePair)
}

func isSamePair(a, b api.Pair) bool { return a.Key == b.Key && bytes.Equal(a.Value, b.Value) }

// Digest gives a sum of pairs.
func Digest(pairs []api.Pair) uint64 {
	sum := codec.Fnv(nil)
	for _, p := range pairs {
		sum = codec.FnvMore(codec.FnvMore(sum, headOf(p)), p.Value)
	}
	return sum
}

// headOf gives the bytes that stand ahead of a pair's value in a digest.
func headOf(p api.Pair) []byte {
	// The room is just what is written, so that no error can stand.
	w, _ := codec.NewWriter(8 + 2)
	w.U64(p.Key)
	w.U16(uint16(len(p.Value)))
	head, _ := w.Out()
	return head
}
