package linear_test

import (
	"fmt"
	"math/rand"
	"slices"
	"testing"
	"time"
	"unsafe"

	"shard/api"
	"shard/history"
	"shard/linear"
)

const (
	theKey   uint64 = 7
	farPlace        = int(^uint(0) >> 1)
)

// What follows says the chapter's rules once more, in other words than the package: it tries all lists there are. A key's value is a text here, "+" and its bytes, or none.

const none = "-"

func docSome(value []byte) string { return "+" + string(value) }

var docAnswers = map[api.Kind][]api.Status{
	api.KGet:    {api.StOK, api.StMissing},
	api.KSet:    {api.StOK, api.StNoCredit},
	api.KDelete: {api.StOK, api.StMissing},
	api.KCas:    {api.StOK, api.StDiffers, api.StNoCredit},
	api.KScan:   {api.StOK},
}

func docMayBe(c api.Call) bool {
	answers, isRequest := docAnswers[c.Req.Kind]
	if !isRequest || c.Begin < 0 {
		return false
	}
	if c.End == -1 {
		return c.Status == 0 && len(c.Value) == 0
	}
	if c.End <= c.Begin || !slices.Contains(answers, c.Status) {
		return false
	}
	if c.Req.Kind == api.KCas && c.Req.Has && c.Status == api.StNoCredit {
		return false
	}
	return len(c.Value) == 0 || c.Req.Kind == api.KGet && c.Status == api.StOK
}

func docAllMayBe(calls []api.Call) bool {
	for _, c := range calls {
		if !docMayBe(c) {
			return false
		}
	}
	return true
}

// docStep is the chapter's table: the status 0 is that of a call whose outcome isn't known.
func docStep(c api.Call, v string) (bool, string) {
	if !docMayBe(c) || c.Req.Kind == api.KScan {
		return false, none
	}
	set, old := docSome(c.Req.Value), none
	if c.Req.Has {
		old = docSome(c.Req.Old)
	}
	changed := v
	if v == old {
		changed = set
	}
	type row struct {
		can  bool
		then string
	}
	r := map[api.Kind]map[api.Status]row{
		api.KGet:    {0: {true, v}, api.StOK: {v == docSome(c.Value), v}, api.StMissing: {v == none, v}},
		api.KSet:    {0: {true, set}, api.StOK: {true, set}, api.StNoCredit: {v == none, none}},
		api.KDelete: {0: {true, none}, api.StOK: {v != none, none}, api.StMissing: {v == none, none}},
		api.KCas:    {0: {true, changed}, api.StOK: {v == old, set}, api.StDiffers: {v != old, v}, api.StNoCredit: {v == none, v}},
	}[c.Req.Kind][c.Status]
	if !r.can {
		return false, none
	}
	return true, r.then
}

func docBefore(a, b api.Call) bool { return a.End != -1 && a.End < b.Begin }

// docStand is the first rule for orders.
func docStand(calls []api.Call, order []int) bool {
	count := map[int]int{}
	for _, n := range order {
		count[n]++
		if n < 0 || n >= len(calls) || calls[n].Req.Kind == api.KScan || count[n] > 1 {
			return false
		}
	}
	for n, c := range calls {
		if c.End != -1 && c.Req.Kind != api.KScan && count[n] == 0 {
			return false
		}
	}
	return true
}

// docInTime is the second.
func docInTime(calls []api.Call, order []int) bool {
	for i, n := range order {
		for _, ahead := range order[:i] {
			if docBefore(calls[n], calls[ahead]) {
				return false
			}
		}
	}
	return true
}

// docPlays is the third.
func docPlays(calls []api.Call, order []int) bool {
	values := map[uint64]string{}
	for _, n := range order {
		key := calls[n].Req.Key
		v, set := values[key]
		if !set {
			v = none
		}
		can := false
		if can, values[key] = docStep(calls[n], v); !can {
			return false
		}
	}
	return true
}

func docObeys(calls []api.Call, order []int) bool {
	return docAllMayBe(calls) && docStand(calls, order) && docInTime(calls, order) && docPlays(calls, order)
}

// lists calls f with all lists of numbers below n in which none stands twice.
func lists(n int, f func([]int)) {
	var list []int
	var add func()
	add = func() {
		f(list)
		for i := range n {
			if !slices.Contains(list, i) {
				list = append(list, i)
				add()
				list = list[:len(list)-1]
			}
		}
	}
	add()
}

// docJudge finds the order of a key's calls among all that obey.
func docJudge(calls []api.Call) api.Verdict {
	var obeying [][]int
	lists(len(calls), func(list []int) {
		if docObeys(calls, list) {
			obeying = append(obeying, slices.Clone(list))
		}
	})
	if len(obeying) == 0 {
		return api.Verdict{Key: calls[0].Req.Key}
	}
	var order []int
	for !docStand(calls, order) {
		var next []int
		for _, o := range obeying {
			if len(o) > len(order) && slices.Equal(o[:len(order)], order) {
				next = append(next, o[len(order)])
			}
		}
		order = append(order, slices.Min(next))
	}
	return api.Verdict{Ok: true, Order: order}
}

func docCheckKey(calls []api.Call) (api.Verdict, api.Errno) {
	if len(calls) > 16 {
		return api.Verdict{}, api.ErrMany
	}
	for _, c := range calls {
		if !docMayBe(c) || c.Req.Kind == api.KScan || c.Req.Key != calls[0].Req.Key {
			return api.Verdict{}, api.ErrCalls
		}
	}
	return docJudge(calls), api.OK
}

// docMerge looks for the list place by place, and holds all that are left against each other at each.
func docMerge(calls []api.Call, orders [][]int) ([]int, api.Errno) {
	if !docAllMayBe(calls) {
		return nil, api.ErrCalls
	}
	if !docStand(calls, slices.Concat(orders...)) {
		return nil, api.ErrMerge
	}
	owner := map[uint64]int{}
	for i, order := range orders {
		keys := map[uint64]bool{}
		for _, n := range order {
			keys[calls[n].Req.Key] = true
		}
		for key := range keys {
			if owner[key] > 0 || len(keys) > 1 {
				return nil, api.ErrMerge
			}
			owner[key] = i + 1
		}
	}
	var list []int
	rest := slices.Clone(orders)
	for len(slices.Concat(rest...)) > 0 {
		least, from := -1, -1
		for i, order := range rest {
			if len(order) > 0 && (least < 0 || order[0] < least) && docMayComeNext(calls, rest, order[0]) {
				least, from = order[0], i
			}
		}
		if least < 0 {
			return nil, api.ErrMerge
		}
		list = append(list, least)
		rest[from] = rest[from][1:]
	}
	return list, api.OK
}

func docMayComeNext(calls []api.Call, rest [][]int, n int) bool {
	for _, left := range slices.Concat(rest...) {
		if docBefore(calls[left], calls[n]) {
			return false
		}
	}
	return true
}

// docOnly gives a key's calls and their numbers.
func docOnly(calls []api.Call, key uint64) ([]api.Call, []int) {
	var only []api.Call
	numbers := history.Only(calls, key)
	for _, n := range numbers {
		only = append(only, calls[n])
	}
	return only, numbers
}

func docCheck(calls []api.Call, workers int) (api.Verdict, api.Errno) {
	switch {
	case workers < 1 || workers > 64:
		return api.Verdict{}, api.ErrWorkers
	case len(calls) > 256:
		return api.Verdict{}, api.ErrMany
	case !docAllMayBe(calls):
		return api.Verdict{}, api.ErrCalls
	}
	var orders [][]int
	for _, key := range history.Keys(calls) {
		only, numbers := docOnly(calls, key)
		v, e := docCheckKey(only)
		if e != api.OK || !v.Ok {
			return v, e
		}
		var order []int
		for _, n := range v.Order {
			order = append(order, numbers[n])
		}
		orders = append(orders, order)
	}
	list, e := docMerge(calls, orders)
	return api.Verdict{Ok: true, Order: list}, e
}

// shown is a value as a text, in which an empty list is the same as none.
func shown(v any) string { return fmt.Sprintf("%+v", v) }

func isSame(t *testing.T, what string, got, want any) {
	t.Helper()
	if shown(got) != shown(want) {
		t.Errorf("%s: %+v; want %+v", what, got, want)
	}
}

// isLike holds what the package says of calls against the document's.
func isLike(t *testing.T, calls []api.Call) api.Verdict {
	t.Helper()
	v, e := linear.CheckKey(calls)
	w, f := docCheckKey(calls)
	isSame(t, "CheckKey "+shown(calls), []any{v, e}, []any{w, f})
	return isLikeChecked(t, calls)
}

func isLikeChecked(t *testing.T, calls []api.Call) api.Verdict {
	t.Helper()
	want, f := docCheck(calls, 1)
	for _, workers := range []int{1, 2, 64} {
		v, e := linear.Check(calls, workers)
		isSame(t, "Check "+shown(calls), []any{v, e}, []any{want, f})
	}
	return want
}

// isOrdered asks for an order of the calls of one key, by both of the calls that judge.
func isOrdered(t *testing.T, calls []api.Call, order ...int) {
	t.Helper()
	isJudged(t, calls, api.Verdict{Ok: true, Order: order}, api.OK)
	if !linear.Obeys(calls, order) {
		t.Errorf("Obeys(%+v, %v): false", calls, order)
	}
}

func isNotLinear(t *testing.T, calls ...api.Call) {
	t.Helper()
	isJudged(t, calls, api.Verdict{Key: calls[0].Req.Key}, api.OK)
}

func isJudged(t *testing.T, calls []api.Call, want api.Verdict, err api.Errno) {
	t.Helper()
	v, e := linear.CheckKey(calls)
	isSame(t, "CheckKey "+shown(calls), []any{v, e}, []any{want, err})
	isChecked(t, calls, want, err)
}

// isChecked asks for a verdict with several numbers of workers.
func isChecked(t *testing.T, calls []api.Call, want api.Verdict, err api.Errno) {
	t.Helper()
	for _, workers := range []int{1, 2, 3, 16, 63, 64} {
		v, e := linear.Check(calls, workers)
		isSame(t, fmt.Sprintf("Check %+v by %d", calls, workers), []any{v, e}, []any{want, err})
	}
}

func isMerged(t *testing.T, calls []api.Call, orders [][]int, want ...int) {
	t.Helper()
	list, e := linear.Merge(calls, orders)
	isSame(t, fmt.Sprintf("Merge %+v, %v", calls, orders), []any{list, e}, []any{want, api.OK})
}

func isNotMerged(t *testing.T, calls []api.Call, orders [][]int, want api.Errno) {
	t.Helper()
	list, e := linear.Merge(calls, orders)
	isSame(t, fmt.Sprintf("Merge %+v, %v", calls, orders), []any{list, e}, []any{[]int{}, want})
}

// inTime lets f end within a time that only work that grows too fast needs.
func inTime(t *testing.T, f func()) {
	t.Helper()
	ended := make(chan struct{})
	go func() {
		defer close(ended)
		f()
	}()
	select {
	case <-ended:
	case <-time.After(2 * time.Minute):
		t.Fatal("still at work")
	}
}

func list(calls ...api.Call) []api.Call { return calls }

// known and open are calls of theKey: a known outcome, and none.
func known(r api.Request, s api.Status, value string, begin, end int) api.Call {
	r.Key = theKey
	return api.Call{Who: 16, Seq: 1, Req: r, Status: s, Value: []byte(value), Begin: begin, End: end}
}

func open(r api.Request, begin int) api.Call { return known(r, 0, "", begin, -1) }

func get() api.Request { return api.Request{Kind: api.KGet} }

func set(value string) api.Request { return api.Request{Kind: api.KSet, Value: []byte(value)} }

func del() api.Request { return api.Request{Kind: api.KDelete} }

func cas(old, value string) api.Request {
	return api.Request{Kind: api.KCas, Has: true, Old: []byte(old), Value: []byte(value)}
}

func create(value string) api.Request { return api.Request{Kind: api.KCas, Value: []byte(value)} }

func scan() api.Request { return api.Request{Kind: api.KScan, Hi: 9, Limit: 3} }

func done(r api.Request, begin, end int) api.Call { return known(r, api.StOK, "", begin, end) }

func got(value string, begin, end int) api.Call { return known(get(), api.StOK, value, begin, end) }

func missed(begin, end int) api.Call { return known(get(), api.StMissing, "", begin, end) }

// at lets a call be one of another key.
func at(key uint64, c api.Call) api.Call {
	c.Req.Key = key
	return c
}

// edges are places near which something changes.
func edges() []int {
	return []int{-farPlace - 1, -farPlace, -2, -1, 0, 1, 2, 3, farPlace - 1, farPlace}
}

// dice makes things at random.
type dice struct{ *rand.Rand }

func diceOf(seed int) dice { return dice{rand.New(rand.NewSource(int64(seed)))} }

// value is one of so few that they often meet.
func (d dice) value() string { return []string{"", "a", "b", "ab"}[d.Intn(4)] }

func (d dice) request() api.Request {
	return []api.Request{get(), get(), set(d.value()), set(d.value()), del(), cas(d.value(), d.value()), create(d.value())}[d.Intn(7)]
}

// any gives a call that may be, whatever it was told.
func (d dice) any(places int) api.Call {
	r := d.request()
	if d.Intn(4) == 0 {
		return open(r, d.Intn(places))
	}
	answers := docAnswers[r.Kind]
	if r.Has {
		answers = answers[:2]
	}
	begin := d.Intn(places)
	c := known(r, answers[d.Intn(len(answers))], "", begin, begin+1+d.Intn(places))
	if r.Kind == api.KGet && c.Status == api.StOK {
		c.Value = []byte(d.value())
	}
	return c
}

// run gives calls of so many keys that took effect one behind the other, each between its begin and its end, and the order in which they did. They stand mixed in the list.
func (d dice) run(n int, keys uint64) ([]api.Call, []int) {
	calls := make([]api.Call, n)
	values := map[uint64]string{}
	var order []int
	for moment, i := range d.Perm(n) {
		c := d.any(1)
		c.Req.Key = d.Uint64() % keys
		v, isSet := values[c.Req.Key]
		if !isSet {
			v = none
		}
		c.Begin = max(0, 10*moment-d.Intn(40))
		if c.End != -1 {
			c.End = 10*moment + 1 + d.Intn(40)
			c = docAnswer(c, v)
		}
		if c.End != -1 || d.Intn(2) == 0 {
			_, values[c.Req.Key] = docStep(c, v)
			order = append(order, i)
		}
		calls[i] = c
	}
	return calls, order
}

// docAnswer gives a call that answer which it must have on a value; where a credit may be wanting, the one it has is left.
func docAnswer(c api.Call, v string) api.Call {
	if can, _ := docStep(c, v); can {
		return c
	}
	for _, status := range docAnswers[c.Req.Kind] {
		c.Status, c.Value = status, nil
		if c.Req.Kind == api.KGet && status == api.StOK && v != none {
			c.Value = []byte(v[1:])
		}
		if can, _ := docStep(c, v); can {
			return c
		}
	}
	panic("no answer")
}

// spoil changes something in a call, so that it often may not be.
func (d dice) spoil(c *api.Call) {
	switch d.Intn(7) {
	case 0:
		c.Begin = edges()[d.Intn(10)]
	case 1:
		c.End = edges()[d.Intn(10)]
	case 2:
		c.Status = api.Status(d.Intn(12))
	case 3:
		c.Value = []byte(d.value())
	case 4:
		c.Req.Kind = api.Kind(d.Intn(14))
	case 5:
		c.Req.Has = !c.Req.Has
	case 6:
		c.Begin, c.End = c.Begin+d.Intn(5)-2, c.End+d.Intn(5)-2
	}
}

// room is where a list lies, spare room included.
type room struct{ first, behind uintptr }

func roomOf[T any](list []T) []room {
	var one T
	if cap(list) == 0 {
		return nil
	}
	first := uintptr(unsafe.Pointer(unsafe.SliceData(list)))
	return []room{{first, first + uintptr(cap(list))*unsafe.Sizeof(one)}}
}

func apart(rooms []room) bool {
	slices.SortFunc(rooms, func(a, b room) int { return int(a.first) - int(b.first) })
	for i := 1; i < len(rooms); i++ {
		if rooms[i-1].behind > rooms[i].first {
			return false
		}
	}
	return true
}
