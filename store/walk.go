package store

import "iter"

// All goes through the pairs, keys rising.
func (m *Map[K, V]) All() iter.Seq2[K, V] {
	return func(yield func(K, V) bool) {
		tree := m.tree()
		m.tell(tree, 0, tree.count(), yield)
	}
}

// Between goes through the pairs from lo to hi, keys rising.
func (m *Map[K, V]) Between(lo K, hi K) iter.Seq2[K, V] {
	return func(yield func(K, V) bool) {
		tree := m.tree()
		from, to := m.span(tree, lo, hi)
		m.tell(tree, from, to, yield)
	}
}

// tell goes through the places of a tree, which the map had when the walk began: its end is sure, whatever is put in from inside.
func (m *Map[K, V]) tell(tree *node[K, V], from, to int, yield func(K, V) bool) {
	tree.walk(from, to, func(n *node[K, V]) bool {
		if m.root == tree {
			return yield(n.key, n.value)
		}
		value, there := m.Get(n.key)
		return !there || yield(n.key, value)
	})
}

// Collect gives a map's keys and values.
func Collect[K, V any](m *Map[K, V]) ([]K, []V) {
	keys := make([]K, 0, m.Len())
	values := make([]V, 0, m.Len())
	for key, value := range m.All() {
		keys = append(keys, key)
		values = append(values, value)
	}
	return keys, values
}
