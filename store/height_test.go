package store_test

import (
	"math/rand"
	"slices"
	"testing"

	"shard/store"
)

func TestP7_5RisingExample(t *testing.T) {
	m := store.NewOrdered[int, int]()
	for i := range 1000 {
		m.Put(i+1, i)
	}
	if h := m.Height(); h < 10 || h > 19 {
		t.Errorf("Height: %d", h)
	}
}

func TestP7_5SmallHeights(t *testing.T) {
	for n, want := range []int{0, 1, 2} {
		isNumber(t, rising(n).Height(), want)
	}
}

// turns gives the numbers below n in orders that make a tree lean to each side.
func turns(n int) [][]int {
	var up, down, in, out []int
	for i := range n {
		up = append(up, i)
		down = append(down, n-1-i)
		if i%2 == 0 {
			in = append(in, i/2)
		} else {
			in = append(in, n-1-i/2)
		}
	}
	out = slices.Clone(in)
	slices.Reverse(out)
	rnd := rand.New(rand.NewSource(75))
	return [][]int{up, down, in, out, rnd.Perm(n), rnd.Perm(n)}
}

func TestP7_5HeightOfManyWays(t *testing.T) {
	const n = 600
	for _, puts := range turns(n) {
		for _, deletes := range turns(n) {
			m := store.NewOrdered[int, int]()
			for _, key := range puts {
				m.Put(key, key)
				isHigh(t, m)
			}
			for i, key := range deletes {
				old, had := m.Delete(key)
				isValue(t, old, had, key, true)
				isHigh(t, m)
				isNumber(t, m.Len(), n-1-i)
			}
			isNumber(t, m.Height(), 0)
		}
	}
}

// A window of keys that moves on, and keys that come and go at one place.
func TestP7_5HeightOfAWindow(t *testing.T) {
	m := store.NewOrdered[int, int]()
	for i := range 20000 {
		m.Put(i, i)
		if i >= 100 {
			m.Delete(i - 100)
		}
		isHigh(t, m)
	}
	for i := range 5000 {
		m.Put(19950*2+i%2, i)
		m.Delete(19950*2 + (i+1)%2)
		isHigh(t, m)
	}
}

// Every order of putting a few keys in, and every order of taking them out.
func TestP7_5HeightOfAllWaysWithFewKeys(t *testing.T) {
	const few = 6
	all := permutations(few)
	for _, puts := range all {
		for number, deletes := range all {
			if (number+puts[0])%7 != 0 {
				continue
			}
			m := store.NewOrdered[int, int]()
			for _, key := range puts {
				m.Put(key, key)
				isHigh(t, m)
			}
			for i, key := range deletes {
				m.Delete(key)
				isHigh(t, m)
				left := slices.Sorted(slices.Values(deletes[i+1:]))
				if got := keysOf(m.All()); !slices.Equal(got, left) {
					t.Fatalf("%v put, %v deleted: %v", puts, deletes[:i+1], got)
				}
			}
		}
	}
}

func permutations(n int) [][]int {
	if n == 0 {
		return [][]int{nil}
	}
	var out [][]int
	for _, rest := range permutations(n - 1) {
		for i := range n {
			out = append(out, slices.Insert(slices.Clone(rest), i, n-1))
		}
	}
	return out
}

// A key is taken out whose going leaves the tree as high as it was, as long as there is one: what is not balanced again grows thin here.
func TestP7_5HeightAgainstWhoTakesOut(t *testing.T) {
	for _, n := range []int{15, 31, 63, 127, 255, 100, 200} {
		for first := range 4 {
			m := rising(n)
			for m.Len() > 0 {
				m.Delete(keepsHigh(m, first))
				isHigh(t, m)
			}
		}
	}
}

// keepsHigh seeks a key that a map can lose and stay as high, from one of its ends or from its middle on.
func keepsHigh(m *store.Map[int, int], first int) int {
	keys, _ := store.Collect(m)
	if first%2 == 1 {
		slices.Reverse(keys)
	}
	if first > 1 {
		keys = append(keys[len(keys)/2:], keys[:len(keys)/2]...)
	}
	for _, key := range keys {
		less := m.Clone()
		less.Delete(key)
		if less.Height() == m.Height() {
			return key
		}
	}
	return keys[0]
}

// shape is a tree that leans to a side at each of its nodes as far as it may.
type shape struct {
	left, right *shape
	key         int
}

// leaning makes the least tree of a height whose sides differ by so much, its keys in order; turn tells which side is the higher one.
func leaning(height, by int, turn func(height int) bool, next *int) *shape {
	if height <= 0 {
		return nil
	}
	s := &shape{}
	high, low := height-1, height-1-by
	if turn(height) {
		high, low = low, high
	}
	s.left = leaning(high, by, turn, next)
	s.key = *next
	*next++
	s.right = leaning(low, by, turn, next)
	return s
}

// Keys that come level by level, as they stand in a tree that leans: who lets it lean too far keeps its shape.
func TestP7_5HeightOfLeaningTrees(t *testing.T) {
	turns := []func(int) bool{
		func(int) bool { return false },
		func(int) bool { return true },
		func(height int) bool { return height%2 == 0 },
		func(height int) bool { return height%3 == 0 },
	}
	for by := 1; by <= 8; by++ {
		for height := 1; height <= 24-by; height++ {
			for _, turn := range turns {
				m, next := store.NewOrdered[int, int](), 0
				for row := []*shape{leaning(height, by, turn, &next)}; len(row) > 0; {
					var below []*shape
					for _, s := range row {
						if s != nil {
							m.Put(s.key, 0)
							below = append(below, s.left, s.right)
						}
					}
					row = below
				}
				isNumber(t, m.Len(), next)
				isHigh(t, m)
			}
		}
	}
}

func TestP7_5HeightOfMany(t *testing.T) {
	const many = 1 << 19
	m := store.NewOrdered[int, int]()
	for i := range many {
		m.Put(i, i)
	}
	isHigh(t, m)
	for i := range many {
		if key, _, there := m.At(i); key != i || !there || m.Rank(i) != i {
			t.Fatalf("At(%d): %d, %v", i, key, there)
		}
	}
	for i := range many / 2 {
		isKeys(t, m.Between(2*i, 2*i), 2*i)
	}
	for i := range many {
		if i%16 != 0 {
			m.Delete(i)
		}
	}
	isHigh(t, m)
	isNumber(t, m.Len(), many/16)
}
