package plan_test

import (
	"fmt"
	"runtime"
	"slices"
	"testing"

	"shard/api"
	"shard/plan"
)

// roomy gives a list with spare room behind it.
func roomy[T any](list ...T) []T { return append(make([]T, 0, len(list)+5), list...) }

// given is a set of arguments for all calls.
type given struct {
	loads []int
	table []api.Segment
	keys  []uint64
	moves []api.Move
}

func newGiven() given {
	return given{
		loads: roomy(7, 0, 3),
		table: roomy(seg(0, 9, 0), seg(10, 14, 1), seg(15, 19, 1), seg(20, top, 0)),
		keys:  roomy(upTo(40)...),
		moves: roomy(move(0, 1, 5, 9, 1), move(1, 2, 5, 19, 2), move(2, 0, 7, 7, 3)),
	}
}

func (g given) shown() string {
	return fmt.Sprint(g.loads[:cap(g.loads)], g.table[:cap(g.table)], g.keys[:cap(g.keys)], g.moves[:cap(g.moves)])
}

// answers are what all calls answer.
type answers struct {
	targets, loads []int
	skew           float64
	moves          []api.Move
	after, before  []api.Segment
}

func (g given) ask(t *testing.T) answers {
	t.Helper()
	targets, e1 := plan.Targets(g.loads)
	skew, e2 := plan.Skew(g.loads)
	loads, e3 := plan.Loads(3, g.table, g.keys)
	found, e4 := plan.Moves(3, g.table, g.keys, 4)
	after, e5 := plan.Play(g.table, g.moves)
	before, e6 := plan.Play(g.table, nil)
	isSame(t, "errors", []api.Errno{e1, e2, e3, e4, e5, e6}, make([]api.Errno, 6))
	return answers{targets, loads, skew, found, after, before}
}

func TestP15_8ArgumentsAreNotChanged(t *testing.T) {
	g := newGiven()
	want := g.shown()
	g.ask(t)
	isSame(t, "the arguments", g.shown(), want)
	// Nor are they by a refusal.
	plan.Play(g.table, append(slices.Clone(g.moves), move(0, 1, 5, 9, 1)))
	plan.Play(g.table[:2], g.moves)
	plan.Moves(1, g.table, g.keys, 4)
	plan.Loads(1, g.table, g.keys)
	isSame(t, "the arguments", g.shown(), want)
}

func TestP15_8AnswersAreNewMemory(t *testing.T) {
	g := newGiven()
	// Lists that are as they shall be already are told anew too.
	g.loads = roomy(4, 3, 3)
	g.table = roomy(two...)
	g.moves = roomy(move(0, 1, 5, 9, 1))
	rooms := slices.Concat(roomOf(g.loads), roomOf(g.table), roomOf(g.keys), roomOf(g.moves))
	var held []answers
	for range 3 {
		a := g.ask(t)
		if len(a.targets) != 3 || len(a.loads) != 3 || len(a.moves) == 0 || len(a.after) != 4 || len(a.before) != 2 {
			t.Fatalf("%+v", a)
		}
		rooms = slices.Concat(rooms, roomOf(a.targets), roomOf(a.loads), roomOf(a.moves), roomOf(a.after), roomOf(a.before))
		held = append(held, a)
	}
	if !apart(rooms) {
		t.Errorf("%d lists, of which some share memory", len(rooms))
	}
	runtime.KeepAlive(held)
	runtime.KeepAlive(g)
}

// What was handed in and what was answered may be written over.
func TestP15_8NothingIsKept(t *testing.T) {
	g := newGiven()
	first := g.ask(t)
	want := fmt.Sprint(first)
	clear(g.loads)
	clear(g.table)
	clear(g.keys)
	clear(g.moves)
	isSame(t, "what was answered", fmt.Sprint(first), want)
	clear(first.targets)
	clear(first.loads)
	clear(first.moves)
	clear(first.after)
	clear(first.before)
	isSame(t, "what is answered again", fmt.Sprint(newGiven().ask(t)), want)
}

// An empty list, nil or not, is the same.
func TestEmptyListsAreTheSame(t *testing.T) {
	isTargets(t, nil, nil, api.ErrLoads)
	isTargets(t, []int{}, nil, api.ErrLoads)
	for _, none := range [][]uint64{nil, {}, make([]uint64, 0, 9)} {
		isLoads(t, 2, two, none, []int{0, 0}, api.OK)
		isMoves(t, 2, two, none, 32, nil, api.OK)
	}
	for _, none := range [][]api.Segment{nil, {}, make([]api.Segment, 0, 9)} {
		isLoads(t, 2, none, nil, nil, api.ErrLayout)
		isPlay(t, none, nil, nil, api.ErrLayout)
	}
	for _, none := range [][]api.Move{nil, {}, make([]api.Move, 0, 9)} {
		isPlay(t, two, none, two, api.OK)
	}
}

// Whatever is handed in, each call answers; beside an error all else is empty.
func TestP15_8NoCallPanics(t *testing.T) {
	for seed := range 5000 {
		d := diceOf(seed)
		number := func() int { return edges()[d.Intn(len(edges()))] }
		loads := make([]int, d.Intn(20))
		for i := range loads {
			loads[i] = number()
		}
		table, list := d.table(8, 1+d.Intn(16)), d.keys(d.Intn(30))
		for range d.Intn(3) {
			table = d.spoilTable(table)
		}
		listOfMoves := make([]api.Move, d.Intn(6))
		for i := range listOfMoves {
			listOfMoves[i] = move(d.Intn(18), d.Intn(18), d.key(), d.key(), number())
		}
		targets, e := plan.Targets(loads)
		isEmptyBeside(t, e, len(targets))
		skew, e := plan.Skew(loads)
		if e != api.OK && skew != 0 {
			t.Errorf("%v beside %d", skew, e)
		}
		has, e := plan.Loads(number(), table, list)
		isEmptyBeside(t, e, len(has))
		found, e := plan.Moves(number(), table, list, number())
		isEmptyBeside(t, e, len(found))
		after, e := plan.Play(table, listOfMoves)
		isEmptyBeside(t, e, len(after))
	}
}

func isEmptyBeside(t *testing.T, e api.Errno, length int) {
	t.Helper()
	if e != api.OK && length > 0 {
		t.Errorf("a list of %d beside %d", length, e)
	}
}
