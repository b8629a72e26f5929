package lossy

import (
	"cmp"
	"maps"
	"slices"

	"shard/api"
)

// every is the number that stands for every address.
const every = -1

// Block bars a link.
func (n *Net) Block(from api.Addr, to api.Addr) api.Errno {
	if !n.made() {
		return api.ErrNil
	}
	n.blocked[api.Link{From: from, To: to}] = struct{}{}
	return api.OK
}

// Heal opens links (-1: any); how many.
func (n *Net) Heal(from int, to int) int {
	if !n.made() {
		return 0
	}
	ahead := len(n.blocked)
	if from == every && to == every {
		clear(n.blocked)
		return ahead
	}
	for link := range n.blocked {
		if fits(link, from, to) {
			delete(n.blocked, link)
		}
	}
	return ahead - len(n.blocked)
}

// Blocked tells the barred links.
func (n *Net) Blocked() []api.Link {
	if !n.made() {
		return nil
	}
	return slices.SortedFunc(maps.Keys(n.blocked), byFromThenTo)
}

func byFromThenTo(a, b api.Link) int {
	return cmp.Or(cmp.Compare(a.From, b.From), cmp.Compare(a.To, b.To))
}

// bars tells whether the link of a datagram is blocked.
func (n *Net) bars(d api.Datagram) bool {
	_, barred := n.blocked[linkOf(d)]
	return barred
}

func linkOf(d api.Datagram) api.Link { return api.Link{From: d.From, To: d.To} }

// fits tells whether a link goes from one number to the other. These stay ints: cut down to addresses, numbers that are none would stand for some.
func fits(link api.Link, from, to int) bool {
	return standsFor(from, link.From) && standsFor(to, link.To)
}

func standsFor(number int, a api.Addr) bool { return number == every || number == int(a) }
