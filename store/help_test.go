package store_test

import (
	"bytes"
	"cmp"
	"encoding/binary"
	"hash/fnv"
	"iter"
	"maps"
	"math"
	"slices"
	"testing"
	"unsafe"

	"shard/api"
	"shard/store"
)

const top uint64 = 1<<64 - 1

// hashOfNone is the number that the document gives as the digest of an empty range.
const hashOfNone uint64 = 0xcbf29ce484222325

// The limits that the document names.
const (
	longest = 64
	roomy   = 32768
)

// entry is a key and its value.
type entry[K, V any] struct {
	key   K
	value V
}

// docMap says the chapter's rules once more, in other words than the package: pairs in no order at all, each counted against all others.
type docMap[K, V any] struct {
	order func(a, b K) int
	pairs []entry[K, V]
}

func (d *docMap[K, V]) place(key K) int {
	return slices.IndexFunc(d.pairs, func(e entry[K, V]) bool { return d.order(e.key, key) == 0 })
}

func (d *docMap[K, V]) put(key K, value V) (V, bool) {
	if i := d.place(key); i >= 0 {
		old := d.pairs[i].value
		d.pairs[i].value = value
		return old, true
	}
	d.pairs = append(d.pairs, entry[K, V]{key, value})
	var none V
	return none, false
}

func (d *docMap[K, V]) get(key K) (V, bool) {
	if i := d.place(key); i >= 0 {
		return d.pairs[i].value, true
	}
	var none V
	return none, false
}

func (d *docMap[K, V]) delete(key K) (V, bool) {
	old, there := d.get(key)
	d.pairs = slices.DeleteFunc(d.pairs, func(e entry[K, V]) bool { return d.order(e.key, key) == 0 })
	return old, there
}

func (d *docMap[K, V]) rank(key K) int {
	ahead := 0
	for _, e := range d.pairs {
		if d.order(e.key, key) < 0 {
			ahead++
		}
	}
	return ahead
}

// pick gives the one pair that a question says yes to.
func (d *docMap[K, V]) pick(yes func(K) bool) (K, V, bool) {
	for _, e := range d.pairs {
		if yes(e.key) {
			return e.key, e.value, true
		}
	}
	var none entry[K, V]
	return none.key, none.value, false
}

func (d *docMap[K, V]) at(i int) (K, V, bool) {
	return d.pick(func(k K) bool { return d.rank(k) == i })
}

// The last key that is not behind one is the one which no other such key is behind.
func (d *docMap[K, V]) floor(key K) (K, V, bool) {
	return d.pick(func(k K) bool {
		return d.order(k, key) <= 0 && !slices.ContainsFunc(d.pairs, func(e entry[K, V]) bool {
			return d.order(e.key, key) <= 0 && d.order(e.key, k) > 0
		})
	})
}

func (d *docMap[K, V]) ceil(key K) (K, V, bool) {
	return d.pick(func(k K) bool {
		return d.order(k, key) >= 0 && !slices.ContainsFunc(d.pairs, func(e entry[K, V]) bool {
			return d.order(e.key, key) >= 0 && d.order(e.key, k) < 0
		})
	})
}

func (d *docMap[K, V]) all() []entry[K, V] {
	out := make([]entry[K, V], len(d.pairs))
	for _, e := range d.pairs {
		out[d.rank(e.key)] = e
	}
	return out
}

func (d *docMap[K, V]) between(lo, hi K) []entry[K, V] {
	return slices.DeleteFunc(d.all(), func(e entry[K, V]) bool { return d.order(e.key, lo) < 0 || d.order(e.key, hi) > 0 })
}

// docShelf says the chapter's rules of a shelf in other words: a Go map, sorted where it is told.
type docShelf struct {
	most  int
	pairs map[uint64]string
}

func newDocShelf(most int) *docShelf { return &docShelf{most, map[uint64]string{}} }

func (d *docShelf) set(key uint64, value []byte) (bool, api.Errno) {
	_, there := d.pairs[key]
	switch {
	case len(value) > longest:
		return false, api.ErrValue
	case !there && len(d.pairs) >= d.most:
		return false, api.ErrShelf
	}
	d.pairs[key] = string(value)
	return !there, api.OK
}

func (d *docShelf) delete(key uint64) bool {
	_, there := d.pairs[key]
	delete(d.pairs, key)
	return there
}

func (d *docShelf) bytes() int {
	sum := 0
	for _, value := range d.pairs {
		sum += len(value)
	}
	return sum
}

func (d *docShelf) within(lo, hi uint64) []api.Pair {
	var out []api.Pair
	for _, key := range slices.Sorted(maps.Keys(d.pairs)) {
		if lo <= key && key <= hi {
			out = append(out, pair(key, d.pairs[key]))
		}
	}
	return out
}

func (d *docShelf) scan(lo, hi uint64, limit int) ([]api.Pair, bool) {
	all := d.within(lo, hi)
	if limit < 0 {
		limit = 0
	}
	if limit >= len(all) {
		return all, false
	}
	return all[:limit], true
}

func (d *docShelf) nth(lo, hi uint64, i int) (uint64, bool) {
	for place, p := range d.within(lo, hi) {
		if place == i {
			return p.Key, true
		}
	}
	return 0, false
}

func (d *docShelf) cut(lo, hi uint64) ([]api.Pair, api.Errno) {
	if lo > hi {
		return nil, api.ErrSpan
	}
	out := d.within(lo, hi)
	for _, p := range out {
		delete(d.pairs, p.Key)
	}
	return out, api.OK
}

func (d *docShelf) lay(pairs []api.Pair) api.Errno {
	var rising, value, there bool
	for i, p := range pairs {
		rising = rising || i > 0 && pairs[i-1].Key >= p.Key
		value = value || len(p.Value) > longest
		_, has := d.pairs[p.Key]
		there = there || has
	}
	switch {
	case rising:
		return api.ErrRising
	case value:
		return api.ErrValue
	case there:
		return api.ErrThere
	case len(d.pairs)+len(pairs) > d.most:
		return api.ErrShelf
	}
	for _, p := range pairs {
		d.pairs[p.Key] = string(p.Value)
	}
	return api.OK
}

func (d *docShelf) digest(lo, hi uint64) uint64 {
	h := fnv.New64a()
	for _, p := range d.within(lo, hi) {
		h.Write(binary.BigEndian.AppendUint64(nil, p.Key))
		h.Write(binary.BigEndian.AppendUint16(nil, uint16(len(p.Value))))
		h.Write(p.Value)
	}
	return h.Sum64()
}

func pair(key uint64, value string) api.Pair { return api.Pair{Key: key, Value: []byte(value)} }

func long(n int) []byte { return bytes.Repeat([]byte{'v'}, n) }

func newMap[K, V any](t *testing.T, order func(a, b K) int) *store.Map[K, V] {
	t.Helper()
	m, e := store.NewMap[K, V](order)
	if m == nil || e != api.OK {
		t.Fatalf("NewMap: %v, %d", m, e)
	}
	return m
}

func newShelf(t *testing.T, most int) *store.Shelf {
	t.Helper()
	s, e := store.NewShelf(most)
	if s == nil || e != api.OK {
		t.Fatalf("NewShelf(%d): %v, %d", most, s, e)
	}
	return s
}

// shelfOf makes a shelf of pairs.
func shelfOf(t *testing.T, most int, pairs ...api.Pair) *store.Shelf {
	t.Helper()
	s := newShelf(t, most)
	for _, p := range pairs {
		if created, e := s.Set(p.Key, p.Value); !created || e != api.OK {
			t.Fatalf("Set(%d, %q): %v, %d", p.Key, p.Value, created, e)
		}
	}
	return s
}

// rising makes a map of the keys from 0 on, each with ten times itself as its value.
func rising(n int) *store.Map[int, int] {
	m := store.NewOrdered[int, int]()
	for i := range n {
		m.Put(i, 10*i)
	}
	return m
}

func isErr(t *testing.T, got, want api.Errno) {
	t.Helper()
	if got != want {
		t.Errorf("error %d; want %d", got, want)
	}
}

func isNumber[N cmp.Ordered](t *testing.T, got, want N) {
	t.Helper()
	if got != want {
		t.Errorf("number %v; want %v", got, want)
	}
}

// isValue holds what Put, Get or Delete answered against what is wanted.
func isValue[V comparable](t *testing.T, got V, had bool, want V, wantHad bool) {
	t.Helper()
	if got != want || had != wantHad {
		t.Errorf("answers %v, %v; want %v, %v", got, had, want, wantHad)
	}
}

// told is what At, Floor or Ceil answers.
type told[K, V any] struct {
	key   K
	value V
	there bool
}

func tell[K, V any](key K, value V, there bool) told[K, V] { return told[K, V]{key, value, there} }

func isTold[K, V comparable](t *testing.T, got, want told[K, V]) {
	t.Helper()
	if got != want {
		t.Errorf("tells %v; want %v", got, want)
	}
}

func entries[K, V any](walk iter.Seq2[K, V]) []entry[K, V] {
	var out []entry[K, V]
	for key, value := range walk {
		out = append(out, entry[K, V]{key, value})
	}
	return out
}

func isWalk[K, V comparable](t *testing.T, walk iter.Seq2[K, V], want ...entry[K, V]) {
	t.Helper()
	if got := entries(walk); !slices.Equal(got, want) {
		t.Errorf("goes through %v; want %v", got, want)
	}
}

func keysOf[K, V any](walk iter.Seq2[K, V]) []K {
	var out []K
	for key := range walk {
		out = append(out, key)
	}
	return out
}

func isKeys[K comparable, V any](t *testing.T, walk iter.Seq2[K, V], want ...K) {
	t.Helper()
	if got := keysOf(walk); !slices.Equal(got, want) {
		t.Errorf("goes through the keys %v; want %v", got, want)
	}
}

// isHigh holds a map's height against both bounds of the document.
func isHigh[K, V any](t *testing.T, m *store.Map[K, V]) {
	t.Helper()
	n, h := uint64(m.Len()), m.Height()
	if h < 0 || h > 62 || 1<<h > (n+1)*(n+1) || 1<<h <= n {
		t.Fatalf("%d keys have the height %d", n, h)
	}
}

// isMap holds all that a map tells against the document's map, at the keys given.
func isMap[K, V comparable](t *testing.T, m *store.Map[K, V], want *docMap[K, V], keys ...K) {
	t.Helper()
	all := want.all()
	isNumber(t, m.Len(), len(all))
	isHigh(t, m)
	isWalk(t, m.All(), all...)
	gotKeys, gotValues := store.Collect(m)
	if len(gotKeys) != len(all) || len(gotValues) != len(all) {
		t.Fatalf("Collect: %v, %v; want %v", gotKeys, gotValues, all)
	}
	for i, e := range all {
		if gotKeys[i] != e.key || gotValues[i] != e.value {
			t.Fatalf("Collect: %v, %v; want %v", gotKeys, gotValues, all)
		}
	}
	for i := -2; i <= len(all)+1; i++ {
		isTold(t, tell(m.At(i)), tell(want.at(i)))
	}
	for _, key := range keys {
		isKey(t, m, want, key)
	}
}

// isKey holds all that a map tells of a key against the document's map.
func isKey[K, V comparable](t *testing.T, m *store.Map[K, V], want *docMap[K, V], key K) {
	t.Helper()
	value, there := want.get(key)
	got, had := m.Get(key)
	isValue(t, got, had, value, there)
	if m.Rank(key) != want.rank(key) {
		t.Errorf("Rank(%v): %d; want %d", key, m.Rank(key), want.rank(key))
	}
	isTold(t, tell(m.Floor(key)), tell(want.floor(key)))
	isTold(t, tell(m.Ceil(key)), tell(want.ceil(key)))
}

func samePairs(a, b []api.Pair) bool {
	return slices.EqualFunc(a, b, func(x, y api.Pair) bool { return x.Key == y.Key && bytes.Equal(x.Value, y.Value) })
}

func isPairs(t *testing.T, got []api.Pair, want ...api.Pair) {
	t.Helper()
	if !samePairs(got, want) {
		t.Errorf("pairs %v; want %v", got, want)
	}
}

func isSet(t *testing.T, s *store.Shelf, key uint64, value []byte, created bool, e api.Errno) {
	t.Helper()
	if gotCreated, gotErr := s.Set(key, value); gotCreated != created || gotErr != e {
		t.Errorf("Set(%d, %q): %v, %d; want %v, %d", key, value, gotCreated, gotErr, created, e)
	}
}

func isGet(t *testing.T, s *store.Shelf, key uint64, value string, there bool) {
	t.Helper()
	if got, had := s.Get(key); string(got) != value || had != there {
		t.Errorf("Get(%d): %q, %v; want %q, %v", key, got, had, value, there)
	}
}

func isScan(t *testing.T, s *store.Shelf, lo, hi uint64, limit int, want []api.Pair, more bool) {
	t.Helper()
	if got, gotMore := s.Scan(lo, hi, limit); !samePairs(got, want) || gotMore != more {
		t.Errorf("Scan(%d, %d, %d): %v, %v; want %v, %v", lo, hi, limit, got, gotMore, want, more)
	}
}

func isNth(t *testing.T, s *store.Shelf, lo, hi uint64, i int, key uint64, there bool) {
	t.Helper()
	if got, had := s.Nth(lo, hi, i); got != key || had != there {
		t.Errorf("Nth(%d, %d, %d): %d, %v; want %d, %v", lo, hi, i, got, had, key, there)
	}
}

func isCut(t *testing.T, s *store.Shelf, lo, hi uint64, want []api.Pair, e api.Errno) {
	t.Helper()
	if got, gotErr := s.Cut(lo, hi); !samePairs(got, want) || gotErr != e {
		t.Errorf("Cut(%d, %d): %v, %d; want %v, %d", lo, hi, got, gotErr, want, e)
	}
}

// isShelf holds what a shelf has against the pairs that are wanted.
func isShelf(t *testing.T, s *store.Shelf, want ...api.Pair) {
	t.Helper()
	sum := 0
	for _, p := range want {
		sum += len(p.Value)
		isGet(t, s, p.Key, string(p.Value), true)
	}
	isNumber(t, s.Len(), len(want))
	isNumber(t, s.Bytes(), sum)
	isScan(t, s, 0, top, math.MaxInt, want, false)
}

// isSpan holds all that a shelf tells of a range against the document's.
func isSpan(t *testing.T, s *store.Shelf, want *docShelf, lo, hi uint64) {
	t.Helper()
	count := len(want.within(lo, hi))
	isNumber(t, s.Count(lo, hi), count)
	isNumber(t, s.Digest(lo, hi), want.digest(lo, hi))
	for _, n := range []int{math.MinInt, -1, 0, 1, 2, count - 1, count, count + 1, math.MaxInt} {
		list, more := want.scan(lo, hi, n)
		isScan(t, s, lo, hi, n, list, more)
		key, there := want.nth(lo, hi, n)
		isNth(t, s, lo, hi, n, key, there)
	}
}

// apart tells whether two lists share no memory, spare room included.
func apart[E any](a, b []E) bool {
	if cap(a) == 0 || cap(b) == 0 {
		return true
	}
	var e E
	first, second := uintptr(unsafe.Pointer(unsafe.SliceData(a))), uintptr(unsafe.Pointer(unsafe.SliceData(b)))
	return first+uintptr(cap(a))*unsafe.Sizeof(e) <= second || second+uintptr(cap(b))*unsafe.Sizeof(e) <= first
}

// spoil writes over a list and its spare room.
func spoil[E any](list []E, with E) {
	list = list[:cap(list)]
	for i := range list {
		list[i] = with
	}
}

// spoilPairs writes over all values of a list of pairs, and the list.
func spoilPairs(list []api.Pair) {
	for _, p := range list[:cap(list)] {
		spoil(p.Value, '!')
	}
	spoil(list, pair(99, "spoilt"))
}
