package linear

import (
	"slices"

	"shard/api"
)

// CheckKey judges the calls of one key.
func CheckKey(calls []api.Call) (api.Verdict, api.Errno) {
	switch {
	case len(calls) > api.MaxKeyCalls:
		return api.Verdict{}, api.ErrMany
	case !allMayBe(calls) || !areOfOneKey(calls):
		return api.Verdict{}, api.ErrCalls
	}
	return judge(calls), api.OK
}

// areOfOneKey tells whether all calls are of the same key: a Scan is of none.
func areOfOneKey(calls []api.Call) bool {
	return !slices.ContainsFunc(calls, func(c api.Call) bool { return isScan(c) || c.Req.Key != calls[0].Req.Key })
}

// judge judges calls that are of one key, and not too many.
func judge(calls []api.Call) api.Verdict {
	s := searchOf(calls)
	if !s.complete(0, 0) {
		return api.Verdict{Key: calls[0].Req.Key}
	}
	return api.Verdict{Ok: true, Order: s.order}
}

// cantStep is where a call leads from a cell on which it can't take effect.
const cantStep = -1

// search looks for an order of a key's calls. A set of calls is a number with a bit for each; cells are told by their places among those that the key can have.
type search struct {
	steps [][]int  // for each call, by cell: the cell behind it, or cantStep
	first []uint32 // for each call: those that are before it
	must  uint32   // those whose outcome is known
	dead  []uint32 // by the set of calls that stand: the cells with which no order comes of it
	order []int
}

func searchOf(calls []api.Call) *search {
	s := &search{dead: make([]uint32, 1<<len(calls))}
	cells := cellsOf(calls)
	for n, c := range calls {
		s.steps = append(s.steps, stepsOf(c, cells))
		s.first = append(s.first, thoseBefore(c, calls))
		if isKnown(c) {
			s.must |= 1 << n
		}
	}
	return s
}

// cellsOf gives the cells that a key can have: none, which it has at first, and what its calls can set.
func cellsOf(calls []api.Call) []cell {
	cells := []cell{{}}
	for _, c := range calls {
		cells = append(cells, full(c.Req.Value))
	}
	return cells
}

// placeOf gives the first place of a cell, so that one which several calls set is one and the same.
func placeOf(cells []cell, c cell) int { return slices.IndexFunc(cells, c.is) }

func stepsOf(c api.Call, cells []cell) []int {
	steps := make([]int, len(cells))
	for i, on := range cells {
		steps[i] = cantStep
		if can, behind := effect(c, on); can {
			steps[i] = placeOf(cells, behind)
		}
	}
	return steps
}

// thoseBefore gives the set of the calls that are before one.
func thoseBefore(c api.Call, calls []api.Call) uint32 {
	var set uint32
	for n, a := range calls {
		if isBefore(a, c) {
			set |= 1 << n
		}
	}
	return set
}

// complete lays calls behind those that stand, which have left the key with a cell, until all that must stand do; the least number first, so that the first order found is the one that is asked for. It tells whether there is any.
func (s *search) complete(standing uint32, at int) bool {
	if s.must&^standing == 0 {
		return true
	}
	if s.dead[standing]>>at&1 != 0 {
		return false
	}
	for n := range s.steps {
		if !s.mayFollow(n, standing) || s.steps[n][at] == cantStep {
			continue
		}
		s.order = append(s.order, n)
		if s.complete(standing|1<<n, s.steps[n][at]) {
			return true
		}
		s.order = s.order[:len(s.order)-1]
	}
	s.dead[standing] |= 1 << at
	return false
}

// mayFollow tells whether a call does not stand yet, and all that are before it do.
func (s *search) mayFollow(n int, standing uint32) bool {
	return standing>>n&1 == 0 && s.first[n]&^standing == 0
}
