package ranges

import (
	"cmp"
	"slices"

	"shard/api"
)

// Shares tells how much each host has.
func (t *Table) Shares() []api.Share {
	held := map[api.Addr]api.Share{}
	for s := range t.All() {
		held[s.Host] = more(held[s.Host], s)
	}
	told := make([]api.Share, 0, len(held))
	for _, share := range held {
		told = append(told, share)
	}
	slices.SortFunc(told, func(a, b api.Share) int { return cmp.Compare(a.Host, b.Host) })
	return told
}

// more adds a segment to its host's share. Only of the first one the last key is left out, since a share is one less than its keys.
func more(share api.Share, s api.Segment) api.Share {
	keys := s.Hi - s.Lo
	if share.Segments > 0 {
		keys++
	}
	return api.Share{Host: s.Host, Segments: share.Segments + 1, Keys: share.Keys + keys}
}

// Diff tells where two tables differ.
func Diff(a *Table, b *Table) ([]api.Change, api.Errno) {
	if !a.made() || !b.made() {
		return nil, api.ErrNil
	}
	var told []api.Change
	place := 0
next:
	for x := range a.All() {
		for ; place < len(b.segs); place++ {
			y := b.segs[place]
			if y.Hi < x.Lo {
				continue
			}
			// Neighbours have different owners, so no two of these changes are one.
			if x.Host != y.Host {
				told = append(told, api.Change{Lo: max(x.Lo, y.Lo), Hi: min(x.Hi, y.Hi), From: x.Host, To: y.Host})
			}
			if y.Hi >= x.Hi {
				continue next
			}
		}
	}
	return told, api.OK
}
