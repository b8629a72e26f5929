package linear

import (
	"cmp"
	"container/heap"
	"math"
	"slices"

	"shard/api"
)

// Merge makes one order of an order for each key.
func Merge(calls []api.Call, orders [][]int) ([]int, api.Errno) {
	if !allMayBe(calls) {
		return nil, api.ErrCalls
	}
	if !stand(calls, orders...) || !haveKeysApart(calls, orders) {
		return nil, api.ErrMerge
	}
	list, whole := mergerOf(calls, orders).merge()
	if !whole {
		return nil, api.ErrMerge
	}
	return list, api.OK
}

// haveKeysApart tells whether no order has calls of two keys, and no key has calls in two orders.
func haveKeysApart(calls []api.Call, orders [][]int) bool {
	keys := map[uint64]struct{}{}
	for _, order := range orders {
		if len(order) == 0 {
			continue
		}
		key := calls[order[0]].Req.Key
		if _, twice := keys[key]; twice {
			return false
		}
		keys[key] = struct{}{}
		if slices.ContainsFunc(order, func(n int) bool { return calls[n].Req.Key != key }) {
			return false
		}
	}
	return true
}

// A call that is to be merged waits for two things, whichever comes first: to be the first one left in its order, and that no call is left that is before it.
const reasonsToWait = 2

// noNumber is behind the last number of an order.
const noNumber = -1

// merger lays the calls of several orders one behind the other.
type merger struct {
	calls  []api.Call
	next   []int   // by number: the one behind it in its order
	waits  []int   // by number: for how many things it still waits
	laid   []bool  // by number: whether it is left no more
	begins []int   // the numbers that wait for calls before them, by rising Begin
	ends   []int   // the numbers left whose outcome is known, by rising End; those laid go when they come first
	ready  numbers // those that wait for nothing
}

func mergerOf(calls []api.Call, orders [][]int) *merger {
	m := &merger{calls: calls, next: make([]int, len(calls)), waits: make([]int, len(calls)), laid: make([]bool, len(calls))}
	for _, order := range orders {
		m.takeIn(order)
	}
	m.begins = slices.Concat(orders...)
	m.ends = slices.DeleteFunc(slices.Clone(m.begins), func(n int) bool { return !isKnown(calls[n]) })
	slices.SortFunc(m.begins, func(a, b int) int { return cmp.Compare(calls[a].Begin, calls[b].Begin) })
	slices.SortFunc(m.ends, func(a, b int) int { return cmp.Compare(calls[a].End, calls[b].End) })
	m.freeInTime()
	return m
}

func (m *merger) takeIn(order []int) {
	next := noNumber
	for _, n := range slices.Backward(order) {
		m.next[n], m.waits[n] = next, reasonsToWait
		next = n
	}
	if next != noNumber {
		m.free(next)
	}
}

// merge gives the numbers one behind the other, and tells whether none is left that waits in vain.
func (m *merger) merge() ([]int, bool) {
	var list []int
	for m.ready.Len() > 0 {
		n := m.ready.takeLeast()
		list = append(list, n)
		m.lay(n)
	}
	return list, !slices.ContainsFunc(m.waits, func(waits int) bool { return waits > 0 })
}

// lay marks a number as left no more, and frees those that waited for this.
func (m *merger) lay(n int) {
	m.laid[n] = true
	if m.next[n] != noNumber {
		m.free(m.next[n])
	}
	m.freeInTime()
}

// free takes one of the things that a number waits for from it.
func (m *merger) free(n int) {
	m.waits[n]--
	if m.waits[n] == 0 {
		heap.Push(&m.ready, n)
	}
}

// freeInTime frees those which no call that is left is before: they begin no later than the first end.
func (m *merger) freeInTime() {
	for len(m.ends) > 0 && m.laid[m.ends[0]] {
		m.ends = m.ends[1:]
	}
	until := math.MaxInt
	if len(m.ends) > 0 {
		until = m.calls[m.ends[0]].End
	}
	for len(m.begins) > 0 && m.calls[m.begins[0]].Begin <= until {
		m.free(m.begins[0])
		m.begins = m.begins[1:]
	}
}

// numbers is a heap with its least number first.
type numbers []int

func (h numbers) Len() int { return len(h) }

func (h numbers) Less(i, j int) bool { return h[i] < h[j] }

func (h numbers) Swap(i, j int) { h[i], h[j] = h[j], h[i] }

func (h *numbers) Push(x any) { *h = append(*h, x.(int)) }

func (h *numbers) Pop() any {
	last := len(*h) - 1
	n := (*h)[last]
	*h = (*h)[:last]
	return n
}

func (h *numbers) takeLeast() int { return heap.Pop(h).(int) }
