package store_test

import (
	"math/rand"
	"testing"

	"shard/store"
)

// odd are functions that are no orders: of them it is promised that calls end and do not panic.
func odd() map[string]func(a, b int) int {
	rnd := rand.New(rand.NewSource(77))
	turn := 0
	return map[string]func(a, b int) int{
		"ahead":  func(a, b int) int { return -1 },
		"behind": func(a, b int) int { return 1 },
		"one":    func(a, b int) int { return 0 },
		"chance": func(a, b int) int { return rnd.Intn(3) - 1 },
		"turns": func(a, b int) int {
			turn++
			return turn%3 - 1
		},
		"ring":   func(a, b int) int { return (a-b+300)%3 - 1 },
		"first":  func(a, b int) int { return a%3 - 1 },
		"second": func(a, b int) int { return b%3 - 1 },
		"apart": func(a, b int) int {
			if a == b {
				return 0
			}
			return 1
		},
	}
}

// work calls all that a map has, from inside of its walks too.
func work(t *testing.T, m *store.Map[int, int]) {
	for i := range 40 {
		m.Put(i*7%31, i)
		m.Get(i)
		m.Rank(i)
		m.Floor(i)
		m.Ceil(i)
		m.At(i)
		m.Delete(i * 5 % 31)
		store.Collect(m)
		m.Clone().Put(i, i)
		isHigh(t, m)
	}
	changes := 0
	for key := range m.All() {
		m.Put(key, -key)
		if changes++; changes < 50 {
			m.Put(changes*11%37, changes)
			m.Delete(key)
		}
	}
	for lo := range 20 {
		for key := range m.Between(lo, lo+15) {
			m.Put(key, lo)
			m.Delete(key + 1)
		}
		for range m.Between(lo, lo-1) {
			m.Delete(lo)
		}
	}
}

func TestP7_16FunctionsThatAreNoOrders(t *testing.T) {
	for name, order := range odd() {
		t.Run(name, func(t *testing.T) { work(t, newMap[int, int](t, order)) })
	}
}

// An order that changes the map that asks it.
func TestP7_16OrderThatChangesItsMap(t *testing.T) {
	changes := map[string]func(m *store.Map[int, int], a, b int){
		"Put":    func(m *store.Map[int, int], a, b int) { m.Put(a*13%29+b, b) },
		"Delete": func(m *store.Map[int, int], a, b int) { m.Delete(b) },
		"both": func(m *store.Map[int, int], a, b int) {
			m.Delete(a)
			m.Put(b+1, a)
			m.Delete(b)
		},
		"empty": func(m *store.Map[int, int], a, b int) {
			for m.Len() > 0 {
				key, _, _ := m.At(0)
				if _, had := m.Delete(key); !had {
					return
				}
			}
		},
	}
	for name, change := range changes {
		t.Run(name, func(t *testing.T) {
			var m *store.Map[int, int]
			inside := false
			m = newMap[int, int](t, func(a, b int) int {
				if !inside {
					inside = true
					change(m, a, b)
					inside = false
				}
				return a - b
			})
			work(t, m)
		})
	}
}

// What panics is the function: the map stays as it was.
func TestP7_16OrderThatPanics(t *testing.T) {
	bad := false
	m := newMap[int, int](t, func(a, b int) int {
		if bad {
			panic("no order")
		}
		return a - b
	})
	for i := range 20 {
		m.Put(i, i)
	}
	for _, call := range []func(){func() { m.Put(30, 1) }, func() { m.Put(3, 1) }, func() { m.Delete(3) }, func() { m.Get(3) }} {
		bad = true
		func() {
			defer func() { recover() }()
			call()
		}()
		bad = false
		isNumber(t, m.Len(), 20)
		value, had := m.Get(3)
		isValue(t, value, had, 3, true)
		isHigh(t, m)
	}
}
