package plan

import (
	"container/heap"

	"shard/api"
)

// Moves tells the moves, each of at most most pairs.
func Moves(hosts int, segs []api.Segment, keys []uint64, most int) ([]api.Move, api.Errno) {
	if !mayBeHosts(hosts) || most < 1 || most > api.MaxMove {
		return nil, api.ErrArg
	}
	stretches, e := layOut(hosts, segs, keys)
	if e != api.OK {
		return nil, e
	}
	p := plannerOf(hosts, stretches)
	var moves []api.Move
	for p.givers.Len() > 0 {
		moves = append(moves, p.next(most))
	}
	return moves, api.OK
}

// planner finds the moves one behind the other. No giver ever takes and no taker gives, so what a taker gets need not be kept.
type planner struct {
	piles  [][]stretch // by host: what it has left to give, the highest stretch last
	givers queue       // the hosts with a surplus
	takers queue       // the hosts with a lack; in all they lack as much as the givers have
}

func plannerOf(hosts int, stretches []stretch) *planner {
	p := &planner{piles: piles(hosts, stretches)}
	loads := loadsOf(hosts, stretches)
	for host, target := range targetsOf(loads) {
		if surplus := loads[host] - target; surplus > 0 {
			heap.Push(&p.givers, waiting{api.Addr(host), surplus})
		} else if surplus < 0 {
			heap.Push(&p.takers, waiting{api.Addr(host), -surplus})
		}
	}
	return p
}

func (p *planner) next(most int) api.Move {
	giver, taker := p.givers[0], p.takers[0]
	s := p.takeOff(giver.host, min(giver.pairs, taker.pairs, most))
	pairs := len(s.keys)
	p.givers.lessen(pairs)
	p.takers.lessen(pairs)
	return api.Move{From: giver.host, To: taker.host, Lo: s.Lo, Hi: s.Hi, Pairs: pairs}
}

// takeOff takes so many keys, or as many as there are, from the top of a host's highest stretch.
func (p *planner) takeOff(host api.Addr, pairs int) stretch {
	pile := p.piles[host]
	last := len(pile) - 1
	whole := pile[last]
	left := len(whole.keys) - pairs
	if left <= 0 {
		p.piles[host] = pile[:last]
		return whole
	}
	lower, upper := whole, whole
	lower.keys, upper.keys = whole.keys[:left], whole.keys[left:]
	upper.Lo = upper.keys[0]
	lower.Hi = upper.Lo - 1
	pile[last] = lower
	return upper
}
