package history_test

import (
	"math"
	"slices"
	"strings"
	"testing"

	"shard/api"
	"shard/history"
)

// isAlone: whether a call may be by itself, by the chapter and by the row.
func isAlone(t *testing.T, c api.Call, mayBe bool) {
	t.Helper()
	if docCallMayBe(c) != mayBe {
		t.Errorf("%+v: the document's rules say %v", c, !mayBe)
	}
	want := api.OK
	if !mayBe {
		want = api.ErrCall
	}
	isChecked(t, []api.Call{c}, 0, want)
}

func TestP13_4CallsByThemselves(t *testing.T) {
	isChecked(t, nil, 0, api.OK)
	isChecked(t, []api.Call{}, 0, api.OK)
	isChecked(t, []api.Call{{}}, 0, api.ErrCall)
	for who := range 256 {
		c := done(0, 1, del(5), 0, 1)
		c.Who = api.Addr(who)
		isAlone(t, c, who >= 16 && who < 32)
	}
	for _, r := range []api.Request{get(5), set(5, strings.Repeat("x", 64)), del(5), cas(5, "a", "b"), create(5, ""), scan(5, 5, 16)} {
		isAlone(t, open(0, 1, r, 3), true)
		isAlone(t, open(0, 0, r, 3), false)
		isAlone(t, done(0, top, r, 3, 4), true)
	}
	for _, r := range []api.Request{{}, {Kind: api.KGet, Hi: 1}, set(5, strings.Repeat("x", 65)), {Kind: api.KCas, Old: []byte("a")}, scan(5, 4, 1), scan(5, 6, 17), scan(5, 6, 0), {Kind: api.KRedirect, Hi: 1}, {Kind: api.KAck}, {Kind: 255}} {
		isAlone(t, open(0, 1, r, 3), false)
		isAlone(t, done(0, 1, r, 3, 4), false)
	}
}

func TestP13_4Places(t *testing.T) {
	for _, c := range []struct {
		begin, end int
		mayBe      bool
	}{
		{0, 1, true}, {0, farPlace, true}, {farPlace - 1, farPlace, true}, {0, farPlace + 1, false}, {0, math.MaxInt, false},
		{0, 0, false}, {5, 5, false}, {5, 4, false}, {1, 0, false}, {5, 6, true},
		{-1, 1, false}, {-1, 0, false}, {math.MinInt, 1, false}, {farPlace, farPlace + 1, false}, {farPlace, farPlace, false}, {farPlace + 1, farPlace + 2, false},
		{0, -2, false}, {0, math.MinInt, false},
	} {
		isAlone(t, done(0, 1, del(5), c.begin, c.end), c.mayBe)
	}
	for _, begin := range []int{math.MinInt, -2, -1, 0, 1, farPlace, farPlace + 1, math.MaxInt} {
		isAlone(t, open(0, 1, del(5), begin), begin >= 0 && begin <= farPlace)
	}
	for _, end := range []int{-2, math.MinInt} {
		isAlone(t, api.Call{Who: 16, Seq: 1, Req: del(5), End: end}, false)
	}
}

func TestP13_4Answers(t *testing.T) {
	for _, r := range []api.Request{get(5), set(5, "v"), del(5), cas(5, "a", "b"), create(5, ""), scan(5, 9, 2)} {
		for status := range 256 {
			s := api.Status(status)
			isAlone(t, call(0, 1, r, 0, 1, s, ""), slices.Contains(docAnswers[r.Kind], s))
			isAlone(t, call(0, 1, r, 0, 1, s, "v"), r.Kind == api.KGet && s == api.StOK)
			isAlone(t, call(0, 1, r, 0, -1, s, ""), s == 0)
			isAlone(t, call(0, 1, r, 0, -1, s, "v"), false)
		}
		for _, size := range []int{1, 64, 65} {
			isAlone(t, call(0, 1, r, 0, 1, api.StOK, strings.Repeat("x", size)), r.Kind == api.KGet && size <= 64)
		}
	}
}

func TestP13_4CallsBehindCalls(t *testing.T) {
	r := del(5)
	for _, c := range []struct {
		calls []api.Call
		fault int // -1: none
	}{
		{[]api.Call{done(0, 1, r, 0, 1), done(0, 2, r, 2, 3)}, -1},
		{[]api.Call{done(0, 1, r, 0, 3), done(1, 1, r, 1, 2)}, -1},
		{[]api.Call{open(0, 1, r, 0), open(1, 1, r, 1), open(0, 2, r, 2)}, -1},
		// The begins rise.
		{[]api.Call{done(0, 1, r, 2, 3), done(1, 1, r, 0, 1)}, 1},
		{[]api.Call{done(0, 1, r, 2, 3), done(1, 1, r, 2, 4)}, 1},
		{[]api.Call{open(0, 1, r, 2), open(1, 1, r, 2)}, 1},
		{[]api.Call{open(0, 1, r, 0), open(1, 1, r, 5), open(2, 1, r, 4)}, 2},
		// No place is taken twice.
		{[]api.Call{done(0, 1, r, 0, 2), done(1, 1, r, 2, 3)}, 1},
		{[]api.Call{done(0, 1, r, 0, 3), done(1, 1, r, 1, 3)}, 1},
		{[]api.Call{done(0, 1, r, 0, 9), done(1, 1, r, 1, 2), done(2, 1, r, 3, 9)}, 2},
		{[]api.Call{done(0, 1, r, 0, 9), done(1, 1, r, 1, 2), done(2, 1, r, 9, 10)}, 2},
		{[]api.Call{done(0, 1, r, 3, 5), done(1, 1, r, 2, 3)}, 1},
		// The numbers of a client rise, those of others do not matter.
		{[]api.Call{done(0, 1, r, 0, 1), done(0, 1, r, 2, 3)}, 1},
		{[]api.Call{done(0, 2, r, 0, 1), done(0, 1, r, 2, 3)}, 1},
		{[]api.Call{done(0, 2, r, 0, 1), done(1, 1, r, 2, 3)}, -1},
		{[]api.Call{done(0, 2, r, 0, 1), done(1, 5, r, 2, 3), done(0, 3, r, 4, 5), done(1, 4, r, 6, 7)}, 3},
		{[]api.Call{done(0, top, r, 0, 1), done(0, 1, r, 2, 3)}, 1},
		{[]api.Call{open(0, 5, r, 0), open(0, 5, r, 1)}, 1},
		{[]api.Call{open(0, 5, r, 0), open(0, top, r, 1)}, -1},
		// A client's call ends ahead of its next one's begin.
		{[]api.Call{done(0, 1, r, 0, 3), done(0, 2, r, 1, 4)}, 1},
		{[]api.Call{done(0, 1, r, 0, 3), open(0, 2, r, 1)}, 1},
		{[]api.Call{done(0, 1, r, 0, 3), open(0, 2, r, 4)}, -1},
		{[]api.Call{done(0, 1, r, 0, 3), done(1, 1, r, 1, 4), done(1, 2, r, 2, 5)}, 2},
		{[]api.Call{done(0, 1, r, 0, farPlace), done(0, 2, r, farPlace-1, farPlace-1)}, 1},
		{[]api.Call{done(0, 1, r, 0, farPlace), open(0, 2, r, farPlace-1)}, 1},
		{[]api.Call{done(15, 1, r, 0, 2), done(15, 2, r, 1, 4)}, 1},
		// The first at fault is told, by itself or by those ahead.
		{[]api.Call{done(0, 1, r, 0, 1), done(0, 1, r, 2, 3), {}}, 1},
		{[]api.Call{done(0, 1, r, 0, 1), {}, done(0, 1, r, 2, 3)}, 1},
		{[]api.Call{done(0, 1, r, 0, 1), done(0, 2, r, 2, 3), call(0, 3, r, 4, 5, api.StDiffers, "")}, 2},
		{[]api.Call{open(1, 9, r, 0), done(0, 1, r, 1, 2), done(1, 1, r, 3, 4), done(0, 1, r, 5, 6)}, 2},
	} {
		want := api.OK
		if c.fault >= 0 {
			want = api.ErrCall
		}
		isChecked(t, c.calls, max(0, c.fault), want)
		isLike(t, c.calls)
	}
}

// All lists of three calls of two clients, at few places.
func TestP13_4AllShortLists(t *testing.T) {
	var all []api.Call
	for n := range 2 {
		for seq := uint64(1); seq <= 2; seq++ {
			for begin := range 5 {
				all = append(all, open(n, seq, del(5), begin))
				for end := begin + 1; end < 6; end++ {
					all = append(all, done(n, seq, del(5), begin, end))
				}
			}
		}
	}
	fine := 0
	for _, a := range all {
		for _, b := range all {
			for _, c := range all {
				calls := []api.Call{a, b, c}
				want, wantErr := docCheck(calls)
				if got, err := history.Check(calls); got != want || err != wantErr {
					t.Fatalf("Check(%+v): %d, %d; want %d, %d", calls, got, err, want, wantErr)
				}
				if wantErr == api.OK {
					fine++
					isLike(t, calls)
				}
			}
		}
	}
	if fine < 1000 {
		t.Errorf("%d lists may be", fine)
	}
}
