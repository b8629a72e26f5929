package store_test

import (
	"cmp"
	"math/rand"
	"testing"

	"shard/store"
)

func TestP7_6CloneStandsApart(t *testing.T) {
	m := example(t)
	c := m.Clone()
	if c == m {
		t.Fatal("Clone gives the map itself")
	}
	c.Delete(5)
	c.Put(2, "z")
	c.Put(7, "new")
	isWalk(t, m.All(), entry[int, string]{2, "c"}, entry[int, string]{5, "b"}, entry[int, string]{9, "d"})
	isWalk(t, c.All(), entry[int, string]{2, "z"}, entry[int, string]{7, "new"}, entry[int, string]{9, "d"})
	m.Delete(9)
	m.Put(7, "other")
	isWalk(t, c.All(), entry[int, string]{2, "z"}, entry[int, string]{7, "new"}, entry[int, string]{9, "d"})
	isNumber(t, m.Len(), 3)
}

func TestP7_6CloneHasTheOrder(t *testing.T) {
	m := newMap[int, int](t, lastDigit)
	m.Put(12, 1)
	c := m.Clone()
	old, had := c.Put(22, 2)
	isValue(t, old, had, 1, true)
	isWalk(t, c.All(), entry[int, int]{12, 2})
	isWalk(t, m.All(), entry[int, int]{12, 1})
	e := newMap[int, int](t, func(a, b int) int { return b - a }).Clone()
	e.Put(1, 1)
	e.Put(2, 2)
	isKeys(t, e.All(), 2, 1)
}

// Values are copied as Go assigns them: a clone's slice is the same slice.
func TestP7_6ValuesAreAssigned(t *testing.T) {
	m := store.NewOrdered[int, []int]()
	given := []int{1}
	m.Put(0, given)
	value, _ := m.Clone().Get(0)
	if &value[0] != &given[0] {
		t.Error("the clone has another slice")
	}
}

// Clones of clones, each changed at random and held against a map of its own.
func TestP7_6ManyClones(t *testing.T) {
	rnd := rand.New(rand.NewSource(76))
	maps := []*store.Map[int, int]{store.NewOrdered[int, int]()}
	docs := []*docMap[int, int]{{order: cmp.Compare[int]}}
	for i := range 3000 {
		at := rnd.Intn(len(maps))
		key := rnd.Intn(30)
		if rnd.Intn(3) == 0 {
			maps[at].Delete(key)
			docs[at].delete(key)
		} else {
			maps[at].Put(key, i)
			docs[at].put(key, i)
		}
		if i%100 == 0 && len(maps) < 12 {
			maps = append(maps, maps[at].Clone())
			docs = append(docs, &docMap[int, int]{cmp.Compare[int], docs[at].all()})
		}
		if i%50 == 0 {
			for j := range maps {
				isMap(t, maps[j], docs[j], key, key+1)
			}
		}
	}
}

// isNone holds a map that is none to what the document says of a nil one.
func isNone(t *testing.T, m *store.Map[string, int]) {
	t.Helper()
	for _, key := range []string{"", "a"} {
		value, had := m.Put(key, 1)
		isValue(t, value, had, 0, false)
		value, had = m.Get(key)
		isValue(t, value, had, 0, false)
		value, had = m.Delete(key)
		isValue(t, value, had, 0, false)
		isTold(t, tell(m.Floor(key)), tell("", 0, false))
		isTold(t, tell(m.Ceil(key)), tell("", 0, false))
		isNumber(t, m.Rank(key), 0)
		isWalk(t, m.Between("", key))
		isWalk(t, m.Between(key, ""))
	}
	for i := -1; i < 3; i++ {
		isTold(t, tell(m.At(i)), tell("", 0, false))
	}
	isNumber(t, m.Len(), 0)
	isNumber(t, m.Height(), 0)
	isWalk(t, m.All())
	keys, values := store.Collect(m)
	if len(keys) != 0 || len(values) != 0 || m.Clone() != nil {
		t.Errorf("Collect: %v, %v; Clone: %v", keys, values, m.Clone())
	}
}

func TestP7_7NilMap(t *testing.T) { isNone(t, nil) }

// Of one that the package did not make nothing is promised but that it does not panic.
func TestP7_16MapThatThePackageDidNotMake(t *testing.T) { isNone(t, &store.Map[string, int]{}) }
