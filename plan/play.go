package plan

import (
	"math"
	"slices"
	"sort"

	"shard/api"
	"shard/ranges"
)

// Play gives the segments behind moves.
func Play(segs []api.Segment, moves []api.Move) ([]api.Segment, api.Errno) {
	table, e := ranges.Load(segs, api.MaxSegments)
	if e != api.OK {
		return nil, api.ErrLayout
	}
	if slices.ContainsFunc(moves, isNoMove) {
		return nil, api.ErrMove
	}
	f := fieldOf(table, moves)
	for _, m := range moves {
		if !f.play(m) {
			return nil, api.ErrMove
		}
	}
	return f.segments(), api.OK
}

// isNoMove tells of a move that may not be, whoever owns its keys.
func isNoMove(m api.Move) bool {
	return m.Lo > m.Hi || !isHost(m.From) || !isHost(m.To) || m.From == m.To
}

func isHost(a api.Addr) bool { return a < api.FirstClient }

// field is a table that may have any number of segments. It is cut into parts ahead of all moves, so that no move cuts a part.
type field struct {
	starts []uint64 // by part: its first key
	owners *owners
}

func fieldOf(table *ranges.Table, moves []api.Move) *field {
	starts := startsOf(table, moves)
	hosts := make([]api.Addr, len(starts))
	for part, start := range starts {
		hosts[part] = table.Lookup(start)
	}
	return &field{starts, ownersOf(hosts)}
}

// startsOf tells the keys at which a segment or a move begins, and those behind a move.
func startsOf(table *ranges.Table, moves []api.Move) []uint64 {
	var starts []uint64
	for s := range table.All() {
		starts = append(starts, s.Lo)
	}
	for _, m := range moves {
		starts = append(starts, m.Lo)
		if m.Hi < math.MaxUint64 {
			starts = append(starts, m.Hi+1)
		}
	}
	slices.Sort(starts)
	return slices.Compact(starts)
}

// part tells the number of the part that a key lies in.
func (f *field) part(key uint64) int {
	return sort.Search(len(f.starts), func(i int) bool { return f.starts[i] > key }) - 1
}

// play lets a move's keys be the taker's, if all of them are the giver's.
func (f *field) play(m api.Move) bool {
	first, last := f.part(m.Lo), f.part(m.Hi)
	if !f.owners.areAll(first, last, m.From) {
		return false
	}
	f.owners.give(first, last, m.To)
	return true
}

// segments tells the segments, neighbours of one owner being one.
func (f *field) segments() []api.Segment {
	var segs []api.Segment
	for part, host := range f.owners.list(len(f.starts)) {
		if last := len(segs) - 1; last >= 0 {
			if segs[last].Host == host {
				continue
			}
			segs[last].Hi = f.starts[part] - 1
		}
		segs = append(segs, api.Segment{Lo: f.starts[part], Hi: math.MaxUint64, Host: host})
	}
	return segs
}
