package store

// Len tells how many keys there are.
func (m *Map[K, V]) Len() int { return m.tree().count() }

// Height tells how high the tree is.
func (m *Map[K, V]) Height() int { return m.tree().high() }

// Rank tells how many keys are below a key.
func (m *Map[K, V]) Rank(key K) int {
	place, _ := m.find(m.tree(), key)
	return place
}

// At tells the key with i keys below it.
func (m *Map[K, V]) At(i int) (K, V, bool) { return m.tree().at(i).pair() }

// Floor tells the greatest key that is not above a key.
func (m *Map[K, V]) Floor(key K) (K, V, bool) {
	tree := m.tree()
	place, there := m.find(tree, key)
	if !there {
		place--
	}
	return tree.at(place).pair()
}

// Ceil tells the least key that is not below a key.
func (m *Map[K, V]) Ceil(key K) (K, V, bool) {
	tree := m.tree()
	place, _ := m.find(tree, key)
	return tree.at(place).pair()
}
