package store_test

import (
	"iter"
	"math/rand"
	"slices"
	"testing"

	"shard/store"
)

func pairsOf(from, to int) []entry[int, int] {
	var out []entry[int, int]
	for i := from; i <= to; i++ {
		out = append(out, entry[int, int]{i, 10 * i})
	}
	return out
}

func TestP7_4Between(t *testing.T) {
	for _, n := range []int{0, 1, 2, 3, 7, 20} {
		m := rising(n)
		isWalk(t, m.All(), pairsOf(0, n-1)...)
		for lo := -2; lo <= n+1; lo++ {
			for hi := -2; hi <= n+1; hi++ {
				isWalk(t, m.Between(lo, hi), pairsOf(max(lo, 0), min(hi, n-1))...)
			}
		}
	}
}

// Ends that are not there, and ends that count as keys that are.
func TestP7_4BetweenKeysThatAreNotThere(t *testing.T) {
	m := store.NewOrdered[int, int]()
	for i := range 30 {
		m.Put(10*i, i)
	}
	isKeys(t, m.Between(11, 49), 20, 30, 40)
	isKeys(t, m.Between(10, 50), 10, 20, 30, 40, 50)
	isKeys(t, m.Between(11, 19))
	isKeys(t, m.Between(20, 20), 20)
	isKeys(t, m.Between(21, 20))
	isKeys(t, m.Between(30, 20))
	isKeys(t, m.Between(-5, 0), 0)
	isKeys(t, m.Between(290, 1000), 290)
	isKeys(t, m.Between(291, 1000))

	d := newMap[int, int](t, lastDigit)
	for _, key := range []int{14, 27, 31, 55} {
		d.Put(key, key)
	}
	isKeys(t, d.Between(104, 205), 14, 55)
	isKeys(t, d.Between(902, 6), 14, 55)
	isKeys(t, d.Between(7, 901))
}

// What is told is what is there when the walk goes on its way.
func TestP7_4WalkIsOfTheTimeOfTheWalk(t *testing.T) {
	m := rising(5)
	all, part := m.All(), m.Between(1, 3)
	m.Put(2, 99)
	m.Delete(3)
	m.Put(5, 50)
	for range 2 {
		isWalk(t, all, entry[int, int]{0, 0}, entry[int, int]{1, 10}, entry[int, int]{2, 99}, entry[int, int]{4, 40}, entry[int, int]{5, 50})
		isWalk(t, part, entry[int, int]{1, 10}, entry[int, int]{2, 99})
	}
	for i := range 6 {
		m.Delete(i)
	}
	isWalk(t, all)
	isWalk(t, part)
	m.Put(3, 33)
	isWalk(t, all, entry[int, int]{3, 33})
	isWalk(t, part, entry[int, int]{3, 33})

	late := store.NewOrdered[int, int]()
	all, part = late.All(), late.Between(5, 9)
	late.Put(7, 70)
	isWalk(t, all, entry[int, int]{7, 70})
	isWalk(t, part, entry[int, int]{7, 70})
}

func TestP7_4WalkThatStops(t *testing.T) {
	m := rising(20)
	for _, walk := range []iter.Seq2[int, int]{m.All(), m.Between(0, 19), m.Between(-5, 90)} {
		for enough := range 20 {
			asked := 0
			walk(func(key, value int) bool {
				if key != asked || value != 10*key {
					t.Errorf("tells %d, %d as number %d", key, value, asked)
				}
				asked++
				return asked <= enough
			})
			isNumber(t, asked, enough+1)
			isWalk(t, walk, pairsOf(0, 19)...)
		}
	}
	next, stop := iter.Pull2(m.Between(4, 9))
	key, value, ok := next()
	if key != 4 || value != 40 || !ok {
		t.Errorf("the first pair is %d, %d, %v", key, value, ok)
	}
	stop()
	m.Delete(4)
	isKeys(t, m.Between(4, 6), 5, 6)
}

// Walks in walks, each on its own way.
func TestP7_4WalksInWalks(t *testing.T) {
	m := rising(6)
	var got []int
	for key := range m.All() {
		for inner := range m.Between(key, 4) {
			if inner == key+2 {
				break
			}
			got = append(got, 10*key+inner)
		}
	}
	if !slices.Equal(got, []int{0, 1, 11, 12, 22, 23, 33, 34, 44}) {
		t.Errorf("goes through %v", got)
	}
}

// Each key's value put from inside of a walk at each key: told if the key is still to come, and kept in any case.
func TestP7_4PutFromInside(t *testing.T) {
	const n = 13
	for _, whole := range []bool{true, false} {
		for at := range n {
			for key := range n {
				m := rising(n)
				walk := m.All()
				if !whole {
					walk = m.Between(0, n)
				}
				var got []entry[int, int]
				for k, v := range walk {
					got = append(got, entry[int, int]{k, v})
					if k == at {
						old, had := m.Put(key, -1)
						isValue(t, old, had, 10*key, true)
						value, had := m.Get(key)
						isValue(t, value, had, -1, true)
					}
				}
				want := pairsOf(0, n-1)
				if key > at {
					want[key].value = -1
				}
				if !slices.Equal(got, want) {
					t.Errorf("Put of %d at %d: %v", key, at, got)
				}
				want[key].value = -1
				isWalk(t, walk, want...)
			}
		}
	}
}

func TestP7_4EveryPutFromInsideIsTold(t *testing.T) {
	m := rising(100)
	for key, value := range m.All() {
		if key > 0 && value != 1000+key {
			t.Fatalf("key %d: %d", key, value)
		}
		m.Put(key, 0)
		m.Put(key+1-(key+1)/100, 1000+key+1)
	}
	isNumber(t, m.Len(), 100)

	d := newMap[int, int](t, lastDigit)
	for i := range 10 {
		d.Put(i, 0)
	}
	var got []entry[int, int]
	for key, value := range d.Between(3, 6) {
		got = append(got, entry[int, int]{key, value})
		d.Put(key+11, key)
	}
	if !slices.Equal(got, []entry[int, int]{{3, 0}, {4, 3}, {5, 4}, {6, 5}}) {
		t.Errorf("goes through %v", got)
	}
}

// A clone that is made in the middle of a walk, and changes to one of the two.
func TestP7_4CloneFromInside(t *testing.T) {
	m := rising(4)
	for key, value := range m.All() {
		isNumber(t, value, 10*key)
		c := m.Clone()
		c.Put(key+1, -1)
		c.Delete(3)
	}
	var last *store.Map[int, int]
	for key, value := range m.All() {
		if key > 0 {
			isNumber(t, value, -key)
		}
		last = m.Clone()
		m.Put(key+1, -key-1)
	}
	value, had := last.Get(4)
	isValue(t, value, had, 0, false)
	isNumber(t, m.Len(), 5)
}

// New keys and deletions from inside: free is what is told, not whether it ends and what the map holds.
func TestP7_4NewKeysAndDeletionsFromInside(t *testing.T) {
	rnd := rand.New(rand.NewSource(74))
	for round := range 300 {
		m := rising(round % 25)
		want := map[int]int{}
		for key, value := range m.All() {
			want[key] = value
		}
		walk := m.All()
		if round%2 == 1 {
			walk = m.Between(rnd.Intn(10), 15+rnd.Intn(20))
		}
		told := 0
		for range walk {
			if told++; told > 2000 {
				t.Fatal("the walk does not end")
			}
			if told > 200 {
				continue
			}
			key := rnd.Intn(40) - 5
			if rnd.Intn(2) == 0 {
				m.Put(key, told)
				want[key] = told
			} else {
				m.Delete(key)
				delete(want, key)
			}
		}
		isNumber(t, m.Len(), len(want))
		isHigh(t, m)
		for key, value := range m.All() {
			if want[key] != value {
				t.Fatalf("key %d: %d; want %d", key, value, want[key])
			}
		}
	}
}

func TestP7_4EmptiedFromInside(t *testing.T) {
	m := rising(50)
	for range m.All() {
		for i := range 50 {
			m.Delete(i)
		}
	}
	isNumber(t, m.Len(), 0)
	m = rising(50)
	for key := range m.All() {
		m.Delete(key)
	}
	m = rising(50)
	for range m.Between(10, 20) {
		m.Delete(m.Len() - 1)
	}
}

func TestP7_4Collect(t *testing.T) {
	m := newMap[string, string](t, func(a, b string) int { return len(a) - len(b) })
	for _, key := range []string{"ccc", "a", "bb", "dd"} {
		m.Put(key, key+"!")
	}
	keys, values := store.Collect(m)
	if !slices.Equal(keys, []string{"a", "bb", "ccc"}) || !slices.Equal(values, []string{"a!", "dd!", "ccc!"}) {
		t.Errorf("Collect: %v, %v", keys, values)
	}
	more, others := store.Collect(m)
	if !apart(keys, values) || !apart(keys, more) || !apart(values, others) || !apart(keys, others) || !apart(more, others) {
		t.Error("two lists share memory")
	}
	spoil(keys, "x")
	spoil(values, "x")
	if !slices.Equal(keysOf(m.All()), more) {
		t.Errorf("what a caller wrote shows: %v", keysOf(m.All()))
	}
}
