package ranges_test

import (
	"math/rand"
	"slices"
	"testing"

	"shard/api"
	"shard/ranges"
)

func isShares(t *testing.T, x *ranges.Table, want ...api.Share) {
	t.Helper()
	if got := x.Shares(); !slices.Equal(got, want) {
		t.Errorf("Shares: %v; want %v", got, want)
	}
}

func TestP6_8Shares(t *testing.T) {
	isShares(t, read(t, three, 8), api.Share{Host: 0, Segments: 2, Keys: 18446744073709551515}, api.Share{Host: 3, Segments: 1, Keys: 99})
	isShares(t, newTable(t, 4, 1), api.Share{Host: 4, Segments: 1, Keys: top})
	isShares(t, read(t, "0-0:9 1-18446744073709551615:2", 8), api.Share{Host: 2, Segments: 1, Keys: top - 1}, api.Share{Host: 9, Segments: 1, Keys: 0})
	isShares(t, read(t, "0-0:15 1-1:0 2-2:15 3-18446744073709551615:7", 8), api.Share{Host: 0, Segments: 1, Keys: 0}, api.Share{Host: 7, Segments: 1, Keys: top - 3}, api.Share{Host: 15, Segments: 2, Keys: 1})
}

// All hosts, laid out from the last to the first, and told from the first to the last each time.
func TestP6_8SharesRise(t *testing.T) {
	x := newTable(t, 0, most)
	for host := range api.Addr(16) {
		for turn := range uint64(3) {
			lo := 1000*turn + 16*uint64(15-host)
			isAssign(t, x, lo, lo+uint64(host), host, api.OK)
		}
	}
	for range 20 {
		shares := x.Shares()
		isNumber(t, len(shares), 16)
		for i, share := range shares {
			if i > 0 && share != (api.Share{Host: api.Addr(i), Segments: 3, Keys: 3*uint64(i+1) - 1}) {
				t.Fatalf("Shares: %v", shares)
			}
		}
	}
}

func TestP6_6DiffExamples(t *testing.T) {
	a, b := read(t, three, 8), read(t, "0-149:0 150-18446744073709551615:3", 2)
	isDiff(t, a, b, api.Change{Lo: 100, Hi: 149, From: 3, To: 0}, api.Change{Lo: 200, Hi: top, From: 0, To: 3})
	isDiff(t, b, a, api.Change{Lo: 100, Hi: 149, From: 0, To: 3}, api.Change{Lo: 200, Hi: top, From: 3, To: 0})
	isDiff(t, a, a)
	isDiff(t, a, read(t, three, most))
	isDiff(t, newTable(t, 1, 1), newTable(t, 2, most), api.Change{Lo: 0, Hi: top, From: 1, To: 2})
	isText(t, a, three)
}

// A run goes no further than its From and its To: where either of them changes, or both do, another one begins.
func TestP6_6DiffRuns(t *testing.T) {
	a := read(t, "0-9:1 10-18446744073709551615:2", 8)
	isDiff(t, a, read(t, "0-9:3 10-18446744073709551615:3", 8), api.Change{Lo: 0, Hi: 9, From: 1, To: 3}, api.Change{Lo: 10, Hi: top, From: 2, To: 3})
	isDiff(t, read(t, "0-18446744073709551615:3", 8), a, api.Change{Lo: 0, Hi: 9, From: 3, To: 1}, api.Change{Lo: 10, Hi: top, From: 3, To: 2})
	isDiff(t, a, read(t, "0-9:2 10-18446744073709551615:1", 8), api.Change{Lo: 0, Hi: 9, From: 1, To: 2}, api.Change{Lo: 10, Hi: top, From: 2, To: 1})
	isDiff(t, a, read(t, "0-4:2 5-9:3 10-14:1 15-18446744073709551615:2", 8), api.Change{Lo: 0, Hi: 4, From: 1, To: 2}, api.Change{Lo: 5, Hi: 9, From: 1, To: 3}, api.Change{Lo: 10, Hi: 14, From: 2, To: 1})
	isDiff(t, read(t, "0-9:1 10-19:1 20-18446744073709551615:2", 8), read(t, "0-18446744073709551615:2", 8), api.Change{Lo: 0, Hi: 19, From: 1, To: 2})
	isDiff(t, a, read(t, "0-18446744073709551614:1 18446744073709551615-18446744073709551615:2", 8), api.Change{Lo: 10, Hi: top - 1, From: 2, To: 1})
}

func TestP6_6DiffOfNone(t *testing.T) {
	x := newTable(t, 1, 4)
	for _, pair := range [][2]*ranges.Table{{nil, nil}, {x, nil}, {nil, x}, {&ranges.Table{}, x}, {x, &ranges.Table{}}} {
		if got, e := ranges.Diff(pair[0], pair[1]); len(got) != 0 || e != api.ErrNil {
			t.Errorf("Diff(%v, %v): %v, %d", pair[0], pair[1], got, e)
		}
	}
}

func TestP6_6DiffOfRandomTables(t *testing.T) {
	rnd := rand.New(rand.NewSource(66))
	for hosts := 1; hosts <= 4; hosts++ {
		for range 800 {
			a, b := newDoc(0, most), newDoc(0, most)
			for i := range edges {
				a.owner[i], b.owner[i] = api.Addr(rnd.Intn(hosts)), api.Addr(rnd.Intn(hosts))
			}
			x, y := read(t, a.text(), most), read(t, b.text(), most)
			changes, e := ranges.Diff(x, y)
			if e != api.OK || !slices.Equal(changes, docDiff(a, b)) {
				t.Fatalf("Diff of %q and %q: %v, %d; want %v", a.text(), b.text(), changes, e, docDiff(a, b))
			}
			// The changes lead from the one to the other.
			for _, c := range changes {
				isOwns(t, x, c.Lo, c.Hi, c.From, true)
				isAssign(t, x, c.Lo, c.Hi, c.To, api.OK)
			}
			isText(t, x, y.Text())
		}
	}
}
