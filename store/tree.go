package store

// node is a tree of pairs, each at its place from 0 on; none at all is a tree too. The heights of the two sides of a node differ by at most 1.
// A node is never written to once it is made: a change makes new ones on its way from the root, and all else is in both trees.
type node[K, V any] struct {
	key         K
	value       V
	left, right *node[K, V]
	size        int
	height      int
}

func (n *node[K, V]) count() int {
	if n == nil {
		return 0
	}
	return n.size
}

func (n *node[K, V]) high() int {
	if n == nil {
		return 0
	}
	return n.height
}

// at gives the node at a place, none if there is no such place.
func (n *node[K, V]) at(place int) *node[K, V] {
	for n != nil {
		here := n.left.count()
		switch {
		case place < here:
			n = n.left
		case place > here:
			place -= here + 1
			n = n.right
		default:
			return n
		}
	}
	return nil
}

// pair tells what a node holds, and whether there is one.
func (n *node[K, V]) pair() (K, V, bool) {
	if n == nil {
		var key K
		var value V
		return key, value, false
	}
	return n.key, n.value, true
}

// walk goes through the nodes at the places from one on, up to the one ahead of another, until a visit says that it is enough; whether none said so. Sides without such a place are not looked into.
func (n *node[K, V]) walk(from, to int, visit func(*node[K, V]) bool) bool {
	if n == nil || from >= n.size || to <= 0 {
		return true
	}
	here := n.left.count()
	if !n.left.walk(from, to, visit) {
		return false
	}
	if from <= here && here < to && !visit(n) {
		return false
	}
	return n.right.walk(from-here-1, to-here-1, visit)
}

// over makes a node with the pair of this one above two trees.
func (n *node[K, V]) over(left, right *node[K, V]) *node[K, V] {
	return &node[K, V]{
		key:    n.key,
		value:  n.value,
		left:   left,
		right:  right,
		size:   left.count() + 1 + right.count(),
		height: max(left.high(), right.high()) + 1,
	}
}

// balanced does what over does for two trees whose heights differ by up to 2, as they do when a pair was put into one of them or taken out.
func (n *node[K, V]) balanced(left, right *node[K, V]) *node[K, V] {
	switch lean := left.high() - right.high(); {
	case lean > 1:
		if inner := left.right; inner.high() > left.left.high() {
			return inner.over(left.over(left.left, inner.left), n.over(inner.right, right))
		}
		return left.over(left.left, n.over(left.right, right))
	case lean < -1:
		if inner := right.left; inner.high() > right.right.high() {
			return inner.over(n.over(left, inner.left), right.over(inner.right, right.right))
		}
		return right.over(n.over(left, right.left), right.right)
	}
	return n.over(left, right)
}

// insert gives the tree with one pair more, at a place that has as many pairs ahead of it.
func (n *node[K, V]) insert(place int, key K, value V) *node[K, V] {
	if n == nil {
		return &node[K, V]{key: key, value: value, size: 1, height: 1}
	}
	here := n.left.count()
	if place <= here {
		return n.balanced(n.left.insert(place, key, value), n.right)
	}
	return n.balanced(n.left, n.right.insert(place-here-1, key, value))
}

// replace gives the tree with another value at a place. The key stays.
func (n *node[K, V]) replace(place int, value V) *node[K, V] {
	here := n.left.count()
	switch {
	case place < here:
		return n.over(n.left.replace(place, value), n.right)
	case place > here:
		return n.over(n.left, n.right.replace(place-here-1, value))
	}
	to := *n
	to.value = value
	return &to
}

// remove gives the tree without the pair at a place.
func (n *node[K, V]) remove(place int) *node[K, V] {
	here := n.left.count()
	switch {
	case place < here:
		return n.balanced(n.left.remove(place), n.right)
	case place > here:
		return n.balanced(n.left, n.right.remove(place-here-1))
	case n.right == nil:
		return n.left
	}
	return n.right.at(0).balanced(n.left, n.right.remove(0))
}
