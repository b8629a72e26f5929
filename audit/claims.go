package audit

import (
	"cmp"
	"iter"
	"slices"

	"shard/api"
)

// Owners tells of all keys who claims them.
func Owners(p api.Picture) ([]api.Hold, api.Errno) {
	all, e := hostsOf(p)
	if e != api.OK {
		return nil, e
	}
	var holds []api.Hold
	for s := range stretches(all.marks(all.flights())) {
		holds = append(holds, api.Hold{Lo: s.lo, Hi: s.hi, Hosts: s.owners(), Flights: append([]int(nil), s.flights...)})
	}
	return holds, api.OK
}

// mark is a key from which on a claim is another than ahead of it, or may be.
type mark struct {
	at     uint64
	host   api.Addr
	turn   turn
	flight int // its number, if the turn is a flight's
}

// turn is what a mark says of its host.
type turn int

const (
	ownsKey turn = iota
	ownsNot
	flightBegins
	flightEnds // at the first key that it does not cover
)

// marks tells all marks, by rising key.
func (all hosts) marks(flights []api.Flight) []mark {
	var marks []mark
	for _, h := range all {
		for _, g := range h.Table {
			marks = append(marks, mark{at: g.Lo, host: h.Self, turn: turnOf(g, h.Self)})
		}
	}
	for number, f := range flights {
		if !isDelegation(f) {
			continue
		}
		marks = append(marks, mark{f.M.Key, f.From, flightBegins, number})
		if f.M.Hi < maxKey {
			marks = append(marks, mark{f.M.Hi + 1, f.From, flightEnds, number})
		}
	}
	slices.SortFunc(marks, func(a, b mark) int { return cmp.Compare(a.at, b.at) })
	return marks
}

func turnOf(g api.Segment, self api.Addr) turn {
	if g.Host == self {
		return ownsKey
	}
	return ownsNot
}

// claims are the claims on a key, in the place of each host those that come from it.
type claims [api.MaxHosts]claim

// claim counts the flights instead of naming them: going up the keys both numbers only grow, so that of two neighbours the same flights cover both just if both have the same numbers.
type claim struct {
	owns  bool
	begun int // flights that begin at the key or below it
	ended int // flights that end below it
}

// behind tells what claims become at some marks. No two marks of one key speak of the same claim, so their order does not count.
func (c claims) behind(marks []mark) claims {
	for _, m := range marks {
		switch here := &c[m.host]; m.turn {
		case ownsKey:
			here.owns = true
		case ownsNot:
			here.owns = false
		case flightBegins:
			here.begun++
		case flightEnds:
			here.ended++
		}
	}
	return c
}

// stretch is a range of keys with the same claims on all of them.
type stretch struct {
	lo, hi  uint64
	claims  claims
	flights []int // those that cover it, rising
}

// stretches goes through all keys, each stretch as long as it can be. A stretch's flights are good until the next one is told: a copy each time would take long, where many flights lie over many stretches.
func stretches(marks []mark) iter.Seq[stretch] {
	return func(yield func(stretch) bool) {
		var s stretch
		for rest := marks; len(rest) > 0; {
			here := ofOneKey(rest)
			rest = rest[len(here):]
			next := s.claims.behind(here)
			if next == s.claims {
				continue
			}
			if at := here[0].at; at > 0 {
				s.hi = at - 1
				if !yield(s) {
					return
				}
				s.lo = at
			}
			s.claims, s.flights = next, flightsBehind(s.flights, here)
		}
		s.hi = maxKey
		yield(s)
	}
}

// ofOneKey gives the first marks, as many as are of one key.
func ofOneKey(marks []mark) []mark {
	n := 1
	for n < len(marks) && marks[n].at == marks[0].at {
		n++
	}
	return marks[:n]
}

// flightsBehind tells what a list of flights becomes at some marks. It writes into the list.
func flightsBehind(flights []int, marks []mark) []int {
	for _, m := range marks {
		place, _ := slices.BinarySearch(flights, m.flight)
		switch m.turn {
		case flightBegins:
			flights = slices.Insert(flights, place, m.flight)
		case flightEnds:
			flights = slices.Delete(flights, place, place+1)
		}
	}
	return flights
}

// owners tells who owns the keys of a stretch.
func (s stretch) owners() []api.Addr {
	var owners []api.Addr
	for h, c := range s.claims {
		if c.owns {
			owners = append(owners, api.Addr(h))
		}
	}
	return owners
}

// count tells how many claims there are on each key of a stretch.
func (s stretch) count() int {
	n := len(s.flights)
	for _, c := range s.claims {
		if c.owns {
			n++
		}
	}
	return n
}
