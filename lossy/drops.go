package lossy

import "shard/api"

// Drop drops the datagrams at these places; how many.
func (n *Net) Drop(at ...int) (int, api.Errno) {
	if !n.made() {
		return 0, api.ErrNil
	}
	named := make([]bool, len(n.list))
	for _, place := range at {
		if !n.has(place) {
			return 0, api.ErrLossyIndex
		}
		named[place] = true
	}
	return n.takeOut(func(place int, _ api.Datagram) bool { return named[place] }), api.OK
}

// Sweep drops all from an address to an address (-1: any); how many.
func (n *Net) Sweep(from int, to int) int {
	return n.takeOut(func(_ int, d api.Datagram) bool { return fits(linkOf(d), from, to) })
}

// Empty drops all; how many.
func (n *Net) Empty() int {
	return n.takeOut(func(int, api.Datagram) bool { return true })
}

// takeOut drops the datagrams of which goes says so, asked with their places as the call finds them; how many.
func (n *Net) takeOut(goes func(place int, d api.Datagram) bool) int {
	if !n.made() {
		return 0
	}
	stay := n.list[:0]
	for place, d := range n.list {
		if !goes(place, d) {
			stay = append(stay, d)
		}
	}
	gone := len(n.list) - len(stay)
	// What is dropped must not be kept in the list's spare room.
	clear(n.list[len(stay):])
	n.list = stay
	n.count.Dropped += gone
	return gone
}
