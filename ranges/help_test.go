package ranges_test

import (
	"iter"
	"math/big"
	"regexp"
	"slices"
	"strconv"
	"strings"
	"testing"
	"unsafe"

	"shard/api"
	"shard/ranges"
)

const top uint64 = 1<<64 - 1

// most is the greatest limit that the document names.
const most = 8192

// three is the table of the document's examples.
const three = "0-99:0 100-199:3 200-18446744073709551615:0"

// edges are the keys at which the document's tables of these tests are cut: the ends of all keys are close by one another, and others lie far apart.
var edges = []uint64{0, 1, 2, 3, 10, 11, 100, 1 << 32, 1<<63 - 1, 1 << 63, top - 2, top - 1, top}

// docTable says the chapter's rules once more, in other words than the package: an owner for each run of keys between two edges.
type docTable struct {
	owner []api.Addr
	limit int
}

func newDoc(owner api.Addr, limit int) *docTable {
	return &docTable{slices.Repeat([]api.Addr{owner}, len(edges)), limit}
}

// lastOf is the last key of the run that begins at an edge.
func lastOf(edge int) uint64 {
	if edge == len(edges)-1 {
		return top
	}
	return edges[edge+1] - 1
}

// edgeOf is the edge of the run in which a key lies.
func edgeOf(key uint64) int {
	at := 0
	for i, edge := range edges {
		if edge <= key {
			at = i
		}
	}
	return at
}

func (d *docTable) lookup(key uint64) api.Addr { return d.owner[edgeOf(key)] }

func (d *docTable) list() []api.Segment {
	var out []api.Segment
	for i, owner := range d.owner {
		if i == 0 || d.owner[i-1] != owner {
			out = append(out, api.Segment{Lo: edges[i], Host: owner})
		}
		out[len(out)-1].Hi = lastOf(i)
	}
	return out
}

func (d *docTable) segment(key uint64) api.Segment {
	for _, s := range d.list() {
		if s.Lo <= key && key <= s.Hi {
			return s
		}
	}
	return api.Segment{}
}

func (d *docTable) within(lo, hi uint64) []api.Segment {
	var out []api.Segment
	for _, s := range d.list() {
		if s.Hi < lo || s.Lo > hi || lo > hi {
			continue
		}
		out = append(out, api.Segment{Lo: max(lo, s.Lo), Hi: min(hi, s.Hi), Host: s.Host})
	}
	return out
}

func (d *docTable) owns(lo, hi uint64, owner api.Addr) bool {
	whose := d.within(lo, hi)
	return len(whose) == 1 && whose[0].Host == owner
}

// given is the table with a range given away: lo and the key behind hi must be edges.
func (d *docTable) given(lo, hi uint64, owner api.Addr) *docTable {
	to := &docTable{slices.Clone(d.owner), d.limit}
	for i, edge := range edges {
		if lo <= edge && edge <= hi {
			to.owner[i] = owner
		}
	}
	return to
}

func (d *docTable) cost(lo, hi uint64, owner api.Addr) (int, api.Errno) {
	if lo > hi {
		return 0, api.ErrRange
	}
	if owner > 15 {
		return 0, api.ErrArg
	}
	return len(d.given(lo, hi, owner).list()) - len(d.list()), api.OK
}

func (d *docTable) assign(lo, hi uint64, owner api.Addr) api.Errno {
	_, e := d.cost(lo, hi, owner)
	if e != api.OK {
		return e
	}
	to := d.given(lo, hi, owner)
	if len(to.list()) > d.limit {
		return api.ErrSegments
	}
	d.owner = to.owner
	return api.OK
}

func (d *docTable) shares() []api.Share {
	var out []api.Share
	for host := range api.Addr(16) {
		keys, segments := big.NewInt(-1), 0
		for _, s := range d.list() {
			if s.Host == host {
				segments++
				keys.Add(keys, new(big.Int).SetUint64(s.Hi))
				keys.Sub(keys, new(big.Int).SetUint64(s.Lo))
				keys.Add(keys, big.NewInt(1))
			}
		}
		if segments > 0 {
			out = append(out, api.Share{Host: host, Segments: segments, Keys: keys.Uint64()})
		}
	}
	return out
}

func (d *docTable) text() string {
	var words []string
	for _, s := range d.list() {
		words = append(words, wordOf(s))
	}
	return strings.Join(words, " ")
}

func wordOf(s api.Segment) string {
	return new(big.Int).SetUint64(s.Lo).String() + "-" + new(big.Int).SetUint64(s.Hi).String() + ":" + strconv.Itoa(int(s.Host))
}

func docDiff(a, b *docTable) []api.Change {
	var out []api.Change
	for i, edge := range edges {
		from, to := a.owner[i], b.owner[i]
		if from == to {
			continue
		}
		if last := len(out) - 1; last >= 0 && out[last].Hi == edge-1 && out[last].From == from && out[last].To == to {
			out[last].Hi = lastOf(i)
			continue
		}
		out = append(out, api.Change{Lo: edge, Hi: lastOf(i), From: from, To: to})
	}
	return out
}

// docLoad gives the segments of the table, or the number of the one at fault (as many as there are: none of them) and the error.
func docLoad(segs []api.Segment, limit int) ([]api.Segment, int, api.Errno) {
	if limit < 1 || limit > most {
		return nil, 0, api.ErrLimit
	}
	one := big.NewInt(1)
	free := big.NewInt(0)
	var out []api.Segment
	for i, s := range segs {
		switch {
		case new(big.Int).SetUint64(s.Lo).Cmp(free) != 0:
			return nil, i, api.ErrTable
		case s.Hi < s.Lo:
			return nil, i, api.ErrRange
		case s.Host > 15:
			return nil, i, api.ErrArg
		}
		free.Add(new(big.Int).SetUint64(s.Hi), one)
		if i > 0 && segs[i-1].Host == s.Host {
			out[len(out)-1].Hi = s.Hi
		} else {
			out = append(out, s)
		}
	}
	if free.BitLen() != 65 {
		return nil, len(segs), api.ErrTable
	}
	if len(out) > limit {
		return nil, len(segs), api.ErrSegments
	}
	return out, 0, api.OK
}

var wordForm = regexp.MustCompile(`\A(0|[1-9][0-9]*)-(0|[1-9][0-9]*):([0-9]|1[0-5])\z`)

func docRead(s string, limit int) ([]api.Segment, int, api.Errno) {
	if limit < 1 || limit > most {
		return nil, 0, api.ErrLimit
	}
	words := strings.Split(s, " ")
	begins := []int{0}
	var segs []api.Segment
	for i, word := range words {
		parts := wordForm.FindStringSubmatch(word)
		if parts == nil {
			return nil, begins[i], api.ErrTabText
		}
		lo, _ := new(big.Int).SetString(parts[1], 10)
		hi, _ := new(big.Int).SetString(parts[2], 10)
		if !lo.IsUint64() || !hi.IsUint64() {
			return nil, begins[i], api.ErrTabText
		}
		host, _ := strconv.Atoi(parts[3])
		segs = append(segs, api.Segment{Lo: lo.Uint64(), Hi: hi.Uint64(), Host: api.Addr(host)})
		begins = append(begins, begins[i]+len(word)+1)
	}
	begins[len(words)] = len(s)
	out, number, e := docLoad(segs, limit)
	if e != api.OK {
		return nil, begins[number], e
	}
	return out, 0, api.OK
}

func seg(lo, hi uint64, host api.Addr) api.Segment { return api.Segment{Lo: lo, Hi: hi, Host: host} }

func newTable(t *testing.T, owner api.Addr, limit int) *ranges.Table {
	t.Helper()
	x, e := ranges.New(owner, limit)
	if x == nil || e != api.OK {
		t.Fatalf("New(%d, %d): %v, %d", owner, limit, x, e)
	}
	return x
}

func read(t *testing.T, s string, limit int) *ranges.Table {
	t.Helper()
	x, at, e := ranges.Read(s, limit)
	if x == nil || at != 0 || e != api.OK {
		t.Fatalf("Read(%q, %d): %v, %d, %d", s, limit, x, at, e)
	}
	return x
}

// comb makes a table of n segments, each but the last of one key, whose owners are 0 and 1 in turn.
func comb(t *testing.T, n, limit int) *ranges.Table {
	t.Helper()
	x, e := ranges.Load(combOf(n), limit)
	if e != api.OK {
		t.Fatalf("Load of %d segments: %d", n, e)
	}
	return x
}

func combOf(n int) []api.Segment {
	var segs []api.Segment
	for i := range n {
		segs = append(segs, seg(uint64(i), uint64(i), api.Addr(i%2)))
	}
	segs[n-1].Hi = top
	return segs
}

func isErr(t *testing.T, got, want api.Errno) {
	t.Helper()
	if got != want {
		t.Errorf("error %d; want %d", got, want)
	}
}

func isNumber(t *testing.T, got, want int) {
	t.Helper()
	if got != want {
		t.Errorf("number %d; want %d", got, want)
	}
}

func isText(t *testing.T, x *ranges.Table, want string) {
	t.Helper()
	if got := x.Text(); got != want {
		t.Errorf("Text: %q; want %q", got, want)
	}
}

func isCost(t *testing.T, x *ranges.Table, lo, hi uint64, owner api.Addr, want int, wantErr api.Errno) {
	t.Helper()
	if got, e := x.Cost(lo, hi, owner); got != want || e != wantErr {
		t.Errorf("Cost(%d, %d, %d): %d, %d; want %d, %d", lo, hi, owner, got, e, want, wantErr)
	}
}

func isAssign(t *testing.T, x *ranges.Table, lo, hi uint64, owner api.Addr, want api.Errno) {
	t.Helper()
	if got := x.Assign(lo, hi, owner); got != want {
		t.Errorf("Assign(%d, %d, %d): %d; want %d", lo, hi, owner, got, want)
	}
}

func isOwns(t *testing.T, x *ranges.Table, lo, hi uint64, owner api.Addr, want bool) {
	t.Helper()
	if got := x.Owns(lo, hi, owner); got != want {
		t.Errorf("Owns(%d, %d, %d): %v; want %v", lo, hi, owner, got, want)
	}
}

func isDiff(t *testing.T, a, b *ranges.Table, want ...api.Change) {
	t.Helper()
	if got, e := ranges.Diff(a, b); e != api.OK || !slices.Equal(got, want) {
		t.Errorf("Diff: %v, %d; want %v", got, e, want)
	}
}

// isWalk holds what an iterator gives against the segments that are wanted.
func isWalk(t *testing.T, walk iter.Seq[api.Segment], want ...api.Segment) {
	t.Helper()
	if got := slices.Collect(walk); !slices.Equal(got, want) {
		t.Errorf("gives %v; want %v", got, want)
	}
}

// isTable holds all that a table tells of itself against the document's.
func isTable(t *testing.T, x *ranges.Table, want *docTable) {
	t.Helper()
	list := want.list()
	if got := x.List(); !slices.Equal(got, list) || x.Len() != len(list) || x.Limit() != want.limit {
		t.Fatalf("List: %v, Len: %d, Limit: %d; want %v, %d", got, x.Len(), x.Limit(), list, want.limit)
	}
	isWalk(t, x.All(), list...)
	isText(t, x, want.text())
	if got := x.Shares(); !slices.Equal(got, want.shares()) {
		t.Fatalf("Shares: %v; want %v", got, want.shares())
	}
	for _, edge := range edges {
		for _, key := range []uint64{edge - 1, edge, edge + 1} {
			if x.Lookup(key) != want.lookup(key) || x.Segment(key) != want.segment(key) {
				t.Fatalf("key %d: %d, %v; want %v", key, x.Lookup(key), x.Segment(key), want.segment(key))
			}
		}
	}
}

// apart tells whether two lists share no memory, spare room included.
func apart[E any](a, b []E) bool {
	if cap(a) == 0 || cap(b) == 0 {
		return true
	}
	var e E
	first, second := uintptr(unsafe.Pointer(unsafe.SliceData(a))), uintptr(unsafe.Pointer(unsafe.SliceData(b)))
	return first+uintptr(cap(a))*unsafe.Sizeof(e) <= second || second+uintptr(cap(b))*unsafe.Sizeof(e) <= first
}

// spoil writes over a list and its spare room.
func spoil[E any](list []E, with E) {
	list = list[:cap(list)]
	for i := range list {
		list[i] = with
	}
}
