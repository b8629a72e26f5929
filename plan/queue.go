package plan

import (
	"container/heap"

	"shard/api"
)

// waiting is a host that has so many pairs to give, or to take.
type waiting struct {
	host  api.Addr
	pairs int
}

// queue is a heap: first comes who has the most pairs, of several the one with the lowest number.
type queue []waiting

func (q queue) Len() int { return len(q) }

func (q queue) Less(i, j int) bool {
	if q[i].pairs != q[j].pairs {
		return q[i].pairs > q[j].pairs
	}
	return q[i].host < q[j].host
}

func (q queue) Swap(i, j int) { q[i], q[j] = q[j], q[i] }

func (q *queue) Push(x any) { *q = append(*q, x.(waiting)) }

func (q *queue) Pop() any {
	last := len(*q) - 1
	w := (*q)[last]
	*q = (*q)[:last]
	return w
}

// lessen takes pairs from the first one, who waits no more if none is left.
func (q *queue) lessen(pairs int) {
	first := &(*q)[0]
	first.pairs -= pairs
	if first.pairs > 0 {
		heap.Fix(q, 0)
	} else {
		heap.Pop(q)
	}
}
