package store_test

import (
	"cmp"
	"math"
	"math/bits"
	"math/rand"
	"strings"
	"testing"

	"shard/api"
	"shard/store"
)

// The document's first example.
func example(t *testing.T) *store.Map[int, string] {
	t.Helper()
	m := newMap[int, string](t, cmp.Compare[int])
	for _, c := range []struct {
		key        int
		value, old string
		had        bool
	}{{5, "a", "", false}, {5, "b", "a", true}, {2, "c", "", false}, {9, "d", "", false}} {
		old, had := m.Put(c.key, c.value)
		isValue(t, old, had, c.old, c.had)
	}
	return m
}

func TestP7_1To7_5Example(t *testing.T) {
	m := example(t)
	isNumber(t, m.Len(), 3)
	isNumber(t, m.Rank(5), 1)
	isNumber(t, m.Rank(6), 2)
	isTold(t, tell(m.At(1)), tell(5, "b", true))
	isTold(t, tell(m.At(3)), tell(0, "", false))
	isTold(t, tell(m.Floor(4)), tell(2, "c", true))
	isTold(t, tell(m.Ceil(10)), tell(0, "", false))
	if h := m.Height(); h != 2 && h != 3 {
		t.Errorf("Height: %d", h)
	}
}

func TestP7_1NoOrder(t *testing.T) {
	m, e := store.NewMap[int, string](nil)
	if m != nil || e != api.ErrNoFunc {
		t.Errorf("NewMap(nil): %v, %d", m, e)
	}
	n, e := store.NewMap[any, func()](nil)
	if n != nil || e != api.ErrNoFunc {
		t.Errorf("NewMap(nil): %v, %d", n, e)
	}
}

func TestP7_1NewMapsAreEmpty(t *testing.T) {
	isMap(t, newMap[int, int](t, cmp.Compare[int]), &docMap[int, int]{order: cmp.Compare[int]}, -1, 0, 1)
	isMap(t, store.NewOrdered[string, bool](), &docMap[string, bool]{order: strings.Compare}, "", "a")
	isNumber(t, store.NewOrdered[float32, struct{}]().Height(), 0)
}

// Two maps of one order are two maps.
func TestP7_1MapsStandApart(t *testing.T) {
	a, b := store.NewOrdered[int, int](), store.NewOrdered[int, int]()
	a.Put(1, 2)
	isNumber(t, b.Len(), 0)
	b.Put(1, 3)
	old, had := a.Delete(1)
	isValue(t, old, had, 2, true)
	isNumber(t, b.Len(), 1)
}

func TestP7_1Floats(t *testing.T) {
	m := store.NewOrdered[float64, string]()
	nan, other := math.NaN(), math.Float64frombits(0xfff8000000000123)
	less := math.Copysign(0, -1)
	for i, key := range []float64{1, nan, math.Inf(-1), less, other, 0, math.Inf(1), -math.MaxFloat64} {
		_, had := m.Put(key, string(rune('a'+i)))
		if had != (i == 4 || i == 5) {
			t.Errorf("Put(%v) as number %d: %v", key, i, had)
		}
	}
	keys, values := store.Collect(m)
	want := []float64{nan, math.Inf(-1), -math.MaxFloat64, less, 1, math.Inf(1)}
	if len(keys) != len(want) || strings.Join(values, "") != "echfag" {
		t.Fatalf("Collect: %v, %q", keys, values)
	}
	for i, key := range keys {
		if math.Float64bits(key) != math.Float64bits(want[i]) {
			t.Errorf("key %d: %v; want %v", i, key, want[i])
		}
		isNumber(t, m.Rank(key), i)
	}
	value, had := m.Get(-other)
	isValue(t, value, had, "e", true)
	value, had = m.Delete(nan)
	isValue(t, value, had, "e", true)
	value, had = m.Get(other)
	isValue(t, value, had, "", false)
	isNumber(t, m.Rank(nan), 0)
	isTold(t, tell(m.Floor(nan)), tell(0.0, "", false))
	isTold(t, tell(m.Ceil(nan)), tell(math.Inf(-1), "c", true))
}

func TestP7_1OtherOrderedKinds(t *testing.T) {
	s := store.NewOrdered[string, int]()
	for i, key := range []string{"b", "", "a\x00", "a", "\xff", "ä", "B"} {
		s.Put(key, i)
	}
	isKeys(t, s.All(), "", "B", "a", "a\x00", "b", "ä", "\xff")
	type mine uint8
	u := store.NewOrdered[mine, int]()
	for i := range 512 {
		u.Put(mine(i*7), i)
	}
	isNumber(t, u.Len(), 256)
	isTold(t, tell(u.At(255)), tell(mine(255), 256+73, true))
}

// lastDigit is an order in which many numbers count as one key.
func lastDigit(a, b int) int { return a%10 - b%10 }

func TestP7_2TheFirstKeyStays(t *testing.T) {
	m := newMap[int, string](t, lastDigit)
	m.Put(12, "a")
	m.Put(3, "b")
	old, had := m.Put(22, "c")
	isValue(t, old, had, "a", true)
	isWalk(t, m.All(), entry[int, string]{12, "c"}, entry[int, string]{3, "b"})
	isWalk(t, m.Between(42, 52), entry[int, string]{12, "c"})
	isTold(t, tell(m.At(0)), tell(12, "c", true))
	isTold(t, tell(m.Floor(32)), tell(12, "c", true))
	isTold(t, tell(m.Ceil(32)), tell(12, "c", true))
	old, had = m.Get(102)
	isValue(t, old, had, "c", true)

	old, had = m.Delete(92)
	isValue(t, old, had, "c", true)
	old, had = m.Put(22, "d")
	isValue(t, old, had, "", false)
	isKeys(t, m.All(), 22, 3)
}

func TestP7_2Delete(t *testing.T) {
	m := example(t)
	for _, key := range []int{7, 1, 10, 3, math.MinInt, math.MaxInt} {
		old, had := m.Delete(key)
		isValue(t, old, had, "", false)
	}
	isKeys(t, m.All(), 2, 5, 9)
	old, had := m.Delete(5)
	isValue(t, old, had, "b", true)
	old, had = m.Delete(5)
	isValue(t, old, had, "", false)
	isKeys(t, m.All(), 2, 9)
	m.Delete(2)
	m.Delete(9)
	isMap(t, m, &docMap[int, string]{order: cmp.Compare[int]}, 2, 5, 9)
	m.Put(4, "again")
	isWalk(t, m.All(), entry[int, string]{4, "again"})
}

// A value may be any, the zero value too: whether a key is there is told apart from it.
func TestP7_2ZeroValues(t *testing.T) {
	m := store.NewOrdered[int, *int]()
	m.Put(0, nil)
	value, had := m.Get(0)
	isValue(t, value, had, nil, true)
	value, had = m.Put(0, new(int))
	isValue(t, value, had, nil, true)
	value, had = m.Get(1)
	isValue(t, value, had, nil, false)
}

func TestP7_3PlacesThatAreNone(t *testing.T) {
	m := example(t)
	for _, i := range []int{-1, 3, 4, math.MinInt, math.MinInt + 1, math.MaxInt, math.MaxInt - 1, 1 << 32, -1 << 32} {
		isTold(t, tell(m.At(i)), tell(0, "", false))
	}
	isTold(t, tell(m.Floor(1)), tell(0, "", false))
	isTold(t, tell(m.Ceil(10)), tell(0, "", false))
	isNumber(t, m.Rank(math.MinInt), 0)
	isNumber(t, m.Rank(math.MaxInt), 3)
}

// far answers the numbers at which one that counts with them would go wrong.
func far(order func(a, b int) int) func(a, b int) int {
	return func(a, b int) int {
		switch c := order(a, b); {
		case c < 0:
			return math.MinInt
		case c > 0:
			return math.MaxInt
		}
		return 0
	}
}

func orders() map[string]func(a, b int) int {
	turned := func(a, b int) int { return cmp.Compare(b, a) }
	return map[string]func(a, b int) int{
		"rising":   cmp.Compare[int],
		"falling":  turned,
		"digit":    lastDigit,
		"far":      far(cmp.Compare[int]),
		"far back": far(turned),
		"bits":     func(a, b int) int { return cmp.Compare(bits.Reverse64(uint64(a)), bits.Reverse64(uint64(b))) },
		"ends":     func(a, b int) int { return cmp.Or(cmp.Compare(a%2, b%2), cmp.Compare(b/4, a/4)) },
	}
}

func TestP7_2And7_3RandomCalls(t *testing.T) {
	for name, order := range orders() {
		t.Run(name, func(t *testing.T) {
			rnd := rand.New(rand.NewSource(7))
			for _, span := range []int{3, 12, 40} {
				m, want := newMap[int, int](t, order), &docMap[int, int]{order: order}
				for i := range 400 {
					key := rnd.Intn(span)
					// Times of growing and times of shrinking.
					if rnd.Intn(10) < 3+i/50%2*4 {
						old, there := want.delete(key)
						got, had := m.Delete(key)
						isValue(t, got, had, old, there)
					} else {
						old, there := want.put(key, i)
						got, had := m.Put(key, i)
						isValue(t, got, had, old, there)
					}
					isMap(t, m, want, rnd.Intn(span), key, -1, span)
					lo, hi := rnd.Intn(span), rnd.Intn(span)
					isWalk(t, m.Between(lo, hi), want.between(lo, hi)...)
				}
			}
		})
	}
}

// Put and Delete keep to a small number of questions: one for each key on a way from the root.
func TestP7_2StepsGrowWithTheLogarithm(t *testing.T) {
	asked := 0
	m := newMap[int, int](t, func(a, b int) int {
		asked++
		return cmp.Compare(a, b)
	})
	const many = 1 << 16
	for i := range many {
		m.Put(i, i)
	}
	for name, call := range map[string]func(int){
		"Put":         func(i int) { m.Put(i, i) },
		"Put, new":    func(i int) { m.Put(i+many, i) },
		"Get":         func(i int) { m.Get(i) },
		"Get, none":   func(i int) { m.Get(-i) },
		"Rank":        func(i int) { m.Rank(i) },
		"Floor":       func(i int) { m.Floor(i) },
		"Ceil":        func(i int) { m.Ceil(i) },
		"Delete":      func(i int) { m.Delete(i) },
		"At":          func(i int) { m.At(i) },
		"Clone":       func(i int) { m.Clone() },
		"Between":     func(i int) { keysOf(m.Between(i, i)) },
		"Between, up": func(i int) { keysOf(m.Between(i+1, i)) },
	} {
		for i := 1; i < many; i += 997 {
			asked = 0
			call(i)
			if asked > 4*17 {
				t.Fatalf("%s asks %d times", name, asked)
			}
		}
	}
}
