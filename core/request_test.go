package core_test

import (
	"testing"

	"shard/api"
)

func TestP10_4Redirect(t *testing.T) {
	n := newCore(t, small(), 1)
	for _, m := range []api.Message{get(1, 7), set(9, 0, "v"), del(3, top), cas(4, 7, "a", "b"), fill(5, 7, "b"), scan(6, 0, top, 1)} {
		isApply(t, n, 16, m, false, outs(16, redirect(m.Seq, seg(0, top, 0)))...)
	}
	s := start(wide(), 2)
	s.Table = []api.Segment{seg(0, 9, 1), seg(10, 19, 2), seg(20, 29, 3), seg(30, top, 0)}
	s.Pairs = []api.Pair{pair(12, "x")}
	s.Sessions = []api.Session{sess(16, 5, api.StOK)}
	n = loadCore(t, wide(), s)
	for _, row := range []struct {
		key  uint64
		want api.Segment
	}{{0, s.Table[0]}, {9, s.Table[0]}, {20, s.Table[2]}, {29, s.Table[2]}, {30, s.Table[3]}, {top, s.Table[3]}} {
		// A number below the session's, and just that one, are sent on all the same: the session is looked at by the owner alone.
		for _, seq := range []uint64{1, 5, 6} {
			for _, m := range []api.Message{get(seq, row.key), set(seq, row.key, "v"), scan(seq, row.key, top, 16)} {
				isApply(t, n, 16, m, false, outs(16, redirect(seq, row.want))...)
			}
		}
	}
	// A Scan is its Key's owner's, wherever it ends.
	isApply(t, n, 17, scan(1, 9, 15, 9), false, outs(17, redirect(1, s.Table[0]))...)
	isState(t, n, s)
}

func TestP10_5Sessions(t *testing.T) {
	s := start(small(), 0)
	s.Pairs, s.Free = []api.Pair{pair(7, "a")}, 1
	s.Sessions = []api.Session{sess(16, 5, api.StOK)}
	n := loadCore(t, small(), s)
	all := func(seq uint64) []api.Message {
		return []api.Message{get(seq, 7), set(seq, 7, "x"), del(seq, 7), cas(seq, 7, "a", "b"), fill(seq, 8, "b"), scan(seq, 0, 9, 2)}
	}
	for _, seq := range []uint64{1, 4} {
		for _, m := range all(seq) {
			isApply(t, n, 16, m, false)
		}
	}
	for _, m := range []api.Message{set(5, 7, "x"), del(5, 7), cas(5, 7, "a", "b"), fill(5, 8, "b"), set(5, 99, "y")} {
		isTold(t, n, 16, m, api.StOK, false)
	}
	value := reply(get(5, 7), api.StOK)
	value.Value = []byte("a")
	isApply(t, n, 16, get(5, 7), false, outs(16, value)...)
	pairs := reply(scan(5, 0, 9, 2), api.StOK)
	pairs.Hi, pairs.Pairs = 9, []api.Pair{pair(7, "a")}
	isApply(t, n, 16, scan(5, 0, 9, 2), false, outs(16, pairs)...)
	isState(t, n, s)
	// Another client has no session; the first one's next number may be any that is higher.
	isTold(t, n, 17, set(1, 7, "y"), api.StOK, true)
	isTold(t, n, 16, set(top, 7, "z"), api.StOK, true)
	isTold(t, n, 16, del(top, 7), api.StOK, false)
	isApply(t, n, 16, get(top-1, 7), false)
	s.Pairs, s.Sessions = []api.Pair{pair(7, "z")}, []api.Session{sess(16, top, api.StOK), sess(17, 1, api.StOK)}
	isState(t, n, s)
}

func TestP10_5StatusThatMayNotBe(t *testing.T) {
	may := []struct {
		m    api.Message
		list []api.Status
	}{
		{set(5, 7, "x"), []api.Status{api.StOK, api.StNoCredit}},
		{del(5, 7), []api.Status{api.StOK, api.StMissing}},
		{cas(5, 7, "a", "b"), []api.Status{api.StOK, api.StDiffers, api.StNoCredit}},
		{fill(5, 7, "b"), []api.Status{api.StOK, api.StDiffers, api.StNoCredit}},
	}
	for _, status := range []api.Status{api.StOK, api.StMissing, api.StDiffers, api.StNoCredit} {
		for _, row := range may {
			s := start(small(), 0)
			s.Sessions = []api.Session{sess(16, 5, status)}
			n := loadCore(t, small(), s)
			told := false
			for _, x := range row.list {
				told = told || x == status
			}
			if told {
				isTold(t, n, 16, row.m, status, false)
			} else {
				isApply(t, n, 16, row.m, false)
			}
			isState(t, n, s)
		}
	}
}

// TestP10_6Changing: each changing request, where the pair is there or not, with and without a credit.
func TestP10_6Changing(t *testing.T) {
	for _, row := range []struct {
		there  bool
		free   int
		m      api.Message
		status api.Status
		value  string
		is     bool
		left   int
	}{
		{true, 0, set(3, 7, "new"), api.StOK, "new", true, 0},
		{true, 1, set(3, 7, "new"), api.StOK, "new", true, 1},
		{true, 1, set(3, 7, ""), api.StOK, "", true, 1},
		{true, 1, set(3, 7, "old"), api.StOK, "old", true, 1},
		{false, 0, set(3, 7, "new"), api.StNoCredit, "", false, 0},
		{false, 1, set(3, 7, "new"), api.StOK, "new", true, 0},
		{false, 1, set(3, 7, ""), api.StOK, "", true, 0},
		{true, 0, del(3, 7), api.StOK, "", false, 1},
		{true, 4, del(3, 7), api.StOK, "", false, 5},
		{false, 0, del(3, 7), api.StMissing, "", false, 0},
		{false, 4, del(3, 7), api.StMissing, "", false, 4},
		{true, 0, cas(3, 7, "old", "new"), api.StOK, "new", true, 0},
		{true, 2, cas(3, 7, "old", "new"), api.StOK, "new", true, 2},
		{true, 2, cas(3, 7, "old", "old"), api.StOK, "old", true, 2},
		{true, 2, cas(3, 7, "ol", "new"), api.StDiffers, "old", true, 2},
		{true, 2, cas(3, 7, "", "new"), api.StDiffers, "old", true, 2},
		{true, 2, cas(3, 7, "older", "new"), api.StDiffers, "old", true, 2},
		{false, 2, cas(3, 7, "old", "new"), api.StDiffers, "", false, 2},
		{false, 2, cas(3, 7, "", "new"), api.StDiffers, "", false, 2},
		{false, 0, cas(3, 7, "", "new"), api.StDiffers, "", false, 0},
		{true, 2, fill(3, 7, "new"), api.StDiffers, "old", true, 2},
		{true, 0, fill(3, 7, "new"), api.StDiffers, "old", true, 0},
		{false, 0, fill(3, 7, "new"), api.StNoCredit, "", false, 0},
		{false, 1, fill(3, 7, "new"), api.StOK, "new", true, 0},
		{false, 1, fill(3, 7, ""), api.StOK, "", true, 0},
	} {
		s := start(small(), 0)
		s.Free = row.free
		s.Pairs = []api.Pair{pair(6, "low"), pair(8, "high")}
		if row.there {
			s.Pairs = []api.Pair{pair(6, "low"), pair(7, "old"), pair(8, "high")}
		}
		s.Sessions = []api.Session{sess(16, 2, api.StMissing), sess(17, 9, api.StOK)}
		n := loadCore(t, small(), s)
		isTold(t, n, 16, row.m, row.status, true)
		s.Free = row.left
		s.Pairs = []api.Pair{pair(6, "low"), pair(8, "high")}
		if row.is {
			s.Pairs = []api.Pair{pair(6, "low"), pair(7, row.value), pair(8, "high")}
		}
		s.Sessions[0] = sess(16, 3, row.status)
		isState(t, n, s)
		isTold(t, n, 16, row.m, row.status, false)
		isState(t, n, s)
	}
}

// An empty value is a value: what expects it finds it, what expects none does not.
func TestP10_6EmptyValue(t *testing.T) {
	n := newCore(t, small(), 0)
	isTold(t, n, 16, set(1, 7, ""), api.StOK, true)
	isTold(t, n, 16, fill(2, 7, "x"), api.StDiffers, true)
	isTold(t, n, 16, cas(3, 7, "", "x"), api.StOK, true)
	isTold(t, n, 16, cas(4, 7, "", "x"), api.StDiffers, true)
}

func TestP10_6NoRoomOnTheShelf(t *testing.T) {
	s := start(small(), 0)
	s.Pairs, s.Free = manyPairs(0, mostShelf), 10
	n := loadCore(t, small(), s)
	isTold(t, n, 16, set(1, 40000, "v"), api.StNoCredit, true)
	isTold(t, n, 16, fill(2, 40000, "v"), api.StNoCredit, true)
	isTold(t, n, 16, set(3, 5, "w"), api.StOK, true)
	isTold(t, n, 16, cas(4, 5, "w", "x"), api.StOK, true)
	isTold(t, n, 16, del(5, 5), api.StOK, true)
	isTold(t, n, 16, set(6, 40000, "v"), api.StOK, true)
	if x := n.State(); x.Free != 10 || len(x.Pairs) != mostShelf {
		t.Errorf("free %d, pairs %d", x.Free, len(x.Pairs))
	}
}

func TestP10_7Get(t *testing.T) {
	s := start(small(), 0)
	s.Pairs = []api.Pair{pair(0, ""), pair(7, "seven"), pair(top, string(make([]byte, 64)))}
	n := loadCore(t, small(), s)
	for _, p := range s.Pairs {
		want := reply(get(3, p.Key), api.StOK)
		want.Value = p.Value
		isApply(t, n, 17, get(3, p.Key), false, outs(17, want)...)
	}
	isTold(t, n, 17, get(3, 6), api.StMissing, false)
	isState(t, n, s)
}

func TestP10_7Scan(t *testing.T) {
	s := start(small(), 1)
	s.Table = []api.Segment{seg(0, 9, 0), seg(10, 99, 1), seg(100, 199, 0), seg(200, top, 1)}
	s.Pairs = []api.Pair{pair(10, "a"), pair(20, ""), pair(30, "c"), pair(99, "d"), pair(200, "e"), pair(top, "f")}
	n := loadCore(t, small(), s)
	for _, row := range []struct {
		lo, hi uint64
		limit  uint8
		count  int
		first  int
		told   uint64
	}{
		{10, 99, 16, 4, 0, 99}, {10, 99, 4, 4, 0, 99}, {10, 99, 3, 3, 0, 30}, {10, 99, 1, 1, 0, 10},
		{10, 98, 3, 3, 0, 98}, {10, 98, 2, 2, 0, 20}, {10, 30, 3, 3, 0, 30}, {11, 29, 1, 1, 1, 29}, {11, 19, 1, 0, 1, 19},
		{10, 100, 16, 4, 0, 99}, {10, top, 16, 4, 0, 99}, {50, 250, 1, 1, 3, 99}, {99, 99, 1, 1, 3, 99}, {98, 98, 1, 0, 3, 98},
		{200, top, 16, 2, 4, top}, {200, top, 1, 1, 4, 200}, {201, top, 1, 1, 5, top}, {top, top, 1, 1, 5, top}, {201, top - 1, 1, 0, 5, top - 1},
	} {
		m := scan(8, row.lo, row.hi, row.limit)
		want := reply(m, api.StOK)
		want.Hi, want.Pairs = row.told, s.Pairs[row.first:row.first+row.count]
		isApply(t, n, 16, m, false, outs(16, want)...)
	}
	isState(t, n, s)
}

func TestP10_7ScanOfSixteen(t *testing.T) {
	s := start(small(), 0)
	s.Pairs = manyPairs(100, 17)
	n := loadCore(t, small(), s)
	m := scan(1, 0, top, 16)
	want := reply(m, api.StOK)
	want.Hi, want.Pairs = 115, s.Pairs[:16]
	isApply(t, n, 16, m, false, outs(16, want)...)
	m = scan(1, 101, top, 16)
	want = reply(m, api.StOK)
	want.Hi, want.Pairs = top, s.Pairs[1:]
	isApply(t, n, 16, m, false, outs(16, want)...)
}

// The chapter's examples 1 to 3.
func TestP10_5Examples(t *testing.T) {
	isApply(t, newCore(t, small(), 1), 16, get(1, 7), false, outs(16, redirect(1, seg(0, top, 0)))...)
	n := newCore(t, small(), 0)
	isTold(t, n, 16, set(1, 7, "a"), api.StOK, true)
	if n.State().Free != 1 {
		t.Errorf("free: %d", n.State().Free)
	}
	isTold(t, n, 16, set(1, 7, "a"), api.StOK, false)
	isTold(t, n, 16, del(2, 9), api.StMissing, true)
	isApply(t, n, 16, set(1, 7, "a"), false)
	isApply(t, n, 16, get(1, 7), false)
	for _, seq := range []uint64{2, 3} {
		want := reply(get(seq, 7), api.StOK)
		want.Value = []byte("a")
		isApply(t, n, 16, get(seq, 7), false, outs(16, want)...)
	}
	n = newCore(t, small(), 0)
	isTold(t, n, 16, set(1, 7, "a"), api.StOK, true)
	isTold(t, n, 16, set(2, 8, "b"), api.StOK, true)
	isTold(t, n, 17, set(1, 9, "c"), api.StNoCredit, true)
	isTold(t, n, 16, del(3, 8), api.StOK, true)
	if n.State().Free != 1 {
		t.Errorf("free: %d", n.State().Free)
	}
	isTold(t, n, 17, set(1, 9, "c"), api.StNoCredit, false)
	isTold(t, n, 17, set(2, 9, "c"), api.StOK, true)
}
