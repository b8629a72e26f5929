package ranges

import "shard/api"

// Cost tells by how many segments Assign would change the table.
func (t *Table) Cost(lo uint64, hi uint64, owner api.Addr) (int, api.Errno) {
	switch {
	case !t.made():
		return 0, api.ErrNil
	case lo > hi:
		return 0, api.ErrRange
	case !isHost(owner):
		return 0, api.ErrArg
	}
	return t.boundsAfter(lo, hi, owner) - t.boundsNow(lo, hi), api.OK
}

// boundsNow counts the boundaries of a range, those at its two ends among them. All others are no matter of a change to it.
func (t *Table) boundsNow(lo, hi uint64) int {
	first, last := lo, hi
	if lo > 0 {
		first--
	}
	if hi < maxKey {
		last++
	}
	return t.place(last) - t.place(first)
}

// boundsAfter counts the same boundaries as they would be if the range were one owner's: only its ends can be left.
func (t *Table) boundsAfter(lo, hi uint64, owner api.Addr) int {
	bounds := 0
	if lo > 0 && t.Lookup(lo-1) != owner {
		bounds++
	}
	if hi < maxKey && t.Lookup(hi+1) != owner {
		bounds++
	}
	return bounds
}

// Assign gives a range to a host.
func (t *Table) Assign(lo uint64, hi uint64, owner api.Addr) api.Errno {
	cost, e := t.Cost(lo, hi, owner)
	if e != api.OK {
		return e
	}
	if t.Len()+cost > t.limit {
		return api.ErrSegments
	}
	laid := make([]api.Segment, 0, t.Len()+cost)
	if lo > 0 {
		for s := range t.Within(0, lo-1) {
			laid = lay(laid, s)
		}
	}
	laid = lay(laid, api.Segment{Lo: lo, Hi: hi, Host: owner})
	if hi < maxKey {
		for s := range t.Within(hi+1, maxKey) {
			laid = lay(laid, s)
		}
	}
	t.segs = laid
	return api.OK
}
