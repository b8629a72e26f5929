package plan

import "shard/api"

// mixed is said of a node below which several hosts own parts.
const mixed = api.NoOne

// owners says of each of a row of parts whose it is. It is a tree, so that a run of parts is asked about or given away in a few steps, however long it is.
type owners struct {
	width int        // how many leaves there are: a power of two, at least as many as parts
	whose []api.Addr // by number of a node: who owns all parts below it, or mixed; what stands below a node that isn't mixed doesn't count
}

// node is a node of the tree and the parts below it. Below node n are 2n and 2n + 1.
type node struct{ number, first, last int }

func (n node) halves() (node, node) {
	middle := (n.first + n.last) / 2
	return node{2 * n.number, n.first, middle}, node{2*n.number + 1, middle + 1, n.last}
}

func (n node) isApart(first, last int) bool { return last < n.first || n.last < first }

func (n node) isWithin(first, last int) bool { return first <= n.first && n.last <= last }

func ownersOf(hosts []api.Addr) *owners {
	width := 1
	for width < len(hosts) {
		width *= 2
	}
	o := &owners{width, make([]api.Addr, 2*width)}
	copy(o.whose[width:], hosts)
	for number := width - 1; number > 0; number-- {
		o.gather(number)
	}
	return o
}

func (o *owners) root() node { return node{1, 0, o.width - 1} }

// gather lets a node say what the two below it say.
func (o *owners) gather(number int) {
	o.whose[number] = o.whose[2*number]
	if o.whose[2*number] != o.whose[2*number+1] {
		o.whose[number] = mixed
	}
}

// handDown lets the two nodes below a node count.
func (o *owners) handDown(number int) {
	if host := o.whose[number]; host != mixed {
		o.whose[2*number], o.whose[2*number+1] = host, host
	}
}

// areAll tells whether all parts from first to last are a host's.
func (o *owners) areAll(first, last int, host api.Addr) bool {
	return o.areAllBelow(o.root(), first, last, host)
}

func (o *owners) areAllBelow(n node, first, last int, host api.Addr) bool {
	switch {
	case n.isApart(first, last):
		return true
	case o.whose[n.number] != mixed:
		return o.whose[n.number] == host
	case n.isWithin(first, last):
		return false
	}
	lower, upper := n.halves()
	return o.areAllBelow(lower, first, last, host) && o.areAllBelow(upper, first, last, host)
}

// give lets all parts from first to last be a host's.
func (o *owners) give(first, last int, host api.Addr) {
	o.giveBelow(o.root(), first, last, host)
}

func (o *owners) giveBelow(n node, first, last int, host api.Addr) {
	if n.isApart(first, last) {
		return
	}
	if n.isWithin(first, last) {
		o.whose[n.number] = host
		return
	}
	o.handDown(n.number)
	lower, upper := n.halves()
	o.giveBelow(lower, first, last, host)
	o.giveBelow(upper, first, last, host)
	o.gather(n.number)
}

// list tells whose the first parts are, so many of them.
func (o *owners) list(parts int) []api.Addr {
	for number := 1; number < o.width; number++ {
		o.handDown(number)
	}
	return o.whose[o.width : o.width+parts]
}
