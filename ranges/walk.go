package ranges

import (
	"iter"

	"shard/api"
)

// All goes through the segments.
func (t *Table) All() iter.Seq[api.Segment] { return t.from(0) }

// Within goes through the segments of a range, cut to it.
func (t *Table) Within(lo uint64, hi uint64) iter.Seq[api.Segment] {
	rest := t.from(lo)
	return func(yield func(api.Segment) bool) {
		if lo > hi {
			return
		}
		for s := range rest {
			if s.Lo > hi || !yield(cut(s, lo, hi)) {
				return
			}
		}
	}
}

func cut(s api.Segment, lo, hi uint64) api.Segment {
	s.Lo, s.Hi = max(s.Lo, lo), min(s.Hi, hi)
	return s
}

// from goes through the segments from the one that a key lies in. They are those of now: a change gives the table another list.
func (t *Table) from(key uint64) iter.Seq[api.Segment] {
	var segs []api.Segment
	if t.made() {
		segs = t.segs[t.place(key):]
	}
	return func(yield func(api.Segment) bool) {
		for _, s := range segs {
			if !yield(s) {
				return
			}
		}
	}
}
