package plan_test

import (
	"fmt"
	"slices"
	"testing"

	"shard/api"
	"shard/plan"
)

func TestP15_4MovesOfTheExamples(t *testing.T) {
	isMoves(t, 2, all(0), upTo(5), 32, moves(move(0, 1, 4, top, 2)), api.OK)
	isMoves(t, 2, all(0), upTo(5), 1, moves(move(0, 1, 5, top, 1), move(0, 1, 4, 4, 1)), api.OK)
	three := segs(seg(0, 9, 0), seg(10, 19, 1), seg(20, top, 0))
	isMoves(t, 2, three, keys(5, 25), 32, moves(move(0, 1, 20, top, 1)), api.OK)
}

func TestP15_4NothingToMove(t *testing.T) {
	isMoves(t, 1, all(0), upTo(50), 1, nil, api.OK)
	isMoves(t, 2, all(0), nil, 32, nil, api.OK)
	isMoves(t, 2, all(1), keys(7), 32, nil, api.OK)
	isMoves(t, 2, segs(seg(0, 2, 1), seg(3, top, 0)), upTo(5), 32, nil, api.OK)
	isMoves(t, 16, combed(16, 16), upTo(15), 32, nil, api.OK)
}

// Givers and takers: the greatest, of several the lowest number.
func TestP15_4WhoGivesAndWhoTakes(t *testing.T) {
	// Loads 4, 4, 1, 0, targets 3, 2, 2, 2.
	table := segs(seg(0, 4, 0), seg(5, 8, 1), seg(9, 9, 2), seg(10, top, 3))
	isMoves(t, 4, table, upTo(9), 32, moves(move(1, 3, 7, 8, 2), move(0, 2, 4, 4, 1)), api.OK)
	// Of one pair each: 1 gives twice, as its surplus is 2 and then 1, like that of 0, which is lower.
	isMoves(t, 4, table, upTo(9), 1, moves(move(1, 3, 8, 8, 1), move(0, 2, 4, 4, 1), move(1, 3, 7, 7, 1)), api.OK)
	// Takers with one lack take turns, the lowest first.
	isMoves(t, 3, all(2), upTo(6), 1, moves(move(2, 0, 6, top, 1), move(2, 1, 5, 5, 1), move(2, 0, 4, 4, 1), move(2, 1, 3, 3, 1)), api.OK)
	// Two givers of one surplus: the lower one first.
	isMoves(t, 3, segs(seg(0, 3, 2), seg(4, 6, 1), seg(7, top, 0)), upTo(6), 32, moves(move(1, 0, 6, 6, 1), move(2, 0, 3, 3, 1)), api.OK)
}

// Each of the four bounds a move, and where it is cut.
func TestP15_4HowManyGo(t *testing.T) {
	isMoves(t, 2, all(0), upTo(100), 32, moves(move(0, 1, 69, top, 32), move(0, 1, 51, 68, 18)), api.OK)
	isMoves(t, 2, all(0), upTo(100), 31, moves(move(0, 1, 70, top, 31), move(0, 1, 51, 69, 19)), api.OK)
	isMoves(t, 2, all(1), upTo(64), 32, moves(move(1, 0, 33, top, 32)), api.OK)
	isMoves(t, 3, all(0), upTo(9), 32, moves(move(0, 1, 7, top, 3), move(0, 2, 4, 6, 3)), api.OK)
	// A segment's keys: the whole segment goes, beyond its keys too.
	isMoves(t, 2, segs(seg(0, 9, 0), seg(10, 19, 1), seg(20, 39, 0), seg(40, top, 1)), keys(1, 2, 3, 30, 31), 32, moves(move(0, 1, 20, 39, 2)), api.OK)
	isMoves(t, 2, segs(seg(0, 9, 0), seg(10, 19, 1), seg(20, 39, 0), seg(40, top, 1)), keys(1, 2, 3, 4, 30), 32, moves(move(0, 1, 20, 39, 1), move(0, 1, 4, 9, 1)), api.OK)
}

// Segments without a key stay, and so do those below; neighbours of one owner are one.
func TestP15_4WhichSegment(t *testing.T) {
	gaps := segs(seg(0, 9, 0), seg(10, 19, 1), seg(20, 29, 0), seg(30, 39, 1), seg(40, top, 0))
	isMoves(t, 2, gaps, keys(1, 2, 22, 23), 32, moves(move(0, 1, 20, 29, 2)), api.OK)
	isMoves(t, 2, gaps, keys(1, 2, 3, 4), 32, moves(move(0, 1, 3, 9, 2)), api.OK)
	joined := segs(seg(0, 9, 0), seg(10, 19, 0), seg(20, 29, 0), seg(30, 39, 1), seg(40, top, 1))
	isMoves(t, 2, joined, keys(5, 25), 32, moves(move(0, 1, 25, 29, 1)), api.OK)
	isMoves(t, 2, joined, keys(5, 15), 32, moves(move(0, 1, 15, 29, 1)), api.OK)
	isMoves(t, 2, segs(seg(0, 4, 1), seg(5, 9, 0), seg(10, 12, 0), seg(13, top, 1)), keys(2, 3, 4, 7), 32, moves(move(1, 0, 4, 4, 1)), api.OK)
}

func TestP15_4AtTheEndsOfTheKeys(t *testing.T) {
	isMoves(t, 2, all(0), keys(0, top), 32, moves(move(0, 1, top, top, 1)), api.OK)
	isMoves(t, 2, all(0), keys(0, 1), 32, moves(move(0, 1, 1, top, 1)), api.OK)
	isMoves(t, 2, all(0), keys(top-1, top), 1, moves(move(0, 1, top, top, 1)), api.OK)
	isMoves(t, 2, segs(seg(0, 0, 0), seg(1, top-1, 1), seg(top, top, 0)), keys(0, top), 1, moves(move(0, 1, top, top, 1)), api.OK)
	isMoves(t, 3, segs(seg(0, 0, 0), seg(1, top, 1)), keys(0, 1, 2), 1, moves(move(1, 2, 2, top, 1)), api.OK)
}

func TestP15_4WhatIsRefused(t *testing.T) {
	for _, hosts := range []int{-farAway - 1, -1, 0, 17, farAway} {
		isMoves(t, hosts, all(0), nil, 32, nil, api.ErrArg)
		isMoves(t, hosts, nil, keys(3, 3), 32, nil, api.ErrArg)
	}
	for _, most := range []int{-farAway - 1, -1, 0, 33, farAway} {
		isMoves(t, 2, all(0), nil, most, nil, api.ErrArg)
		isMoves(t, 2, nil, keys(3, 3), most, nil, api.ErrArg)
	}
	isMoves(t, 2, all(2), keys(1, 2), 32, nil, api.ErrLayout)
	isMoves(t, 2, all(16), keys(1, 2), 32, nil, api.ErrLayout)
	isMoves(t, 16, all(15), keys(1), 1, nil, api.OK)
}

func TestP15_4RandomLayouts(t *testing.T) {
	for seed := range 3000 {
		d := diceOf(seed)
		hosts, most := 1+d.Intn(16), 1+d.Intn(32)
		if d.Intn(2) == 0 {
			hosts, most = 1+d.Intn(4), 1+d.Intn(3)
		}
		table, list := d.tilted(12, hosts), d.keys(d.Intn(90))
		isMoves(t, hosts, table, list, most, docMoves(hosts, table, list, most), api.OK)
	}
}

// Every layout of few keys and cuts.
func TestP15_4AllSmallLayouts(t *testing.T) {
	const places, hosts = 5, 3
	for code := range 3 * 3 * 3 * 3 * 3 {
		var table []api.Segment
		for i, c := 0, code; i < places; i, c = i+1, c/hosts {
			table = append(table, seg(uint64(i), uint64(i), c%hosts))
		}
		table[places-1].Hi = top
		for chosen := range 1 << places {
			var list []uint64
			for i := range places {
				if chosen>>i&1 == 1 {
					list = append(list, uint64(i))
				}
			}
			for most := 1; most <= 3; most++ {
				isMoves(t, hosts, table, list, most, docMoves(hosts, table, list, most), api.OK)
			}
		}
	}
}

// isGood holds the moves of a layout against what is promised of them together.
func isGood(t *testing.T, hosts int, table []api.Segment, list []uint64, most int) {
	t.Helper()
	what := fmt.Sprintf("%d, %v, %v, %d", hosts, table, list, most)
	found, e := plan.Moves(hosts, table, list, most)
	isSame(t, what, e, api.OK)
	before := docLoads(hosts, table, list)
	gone := map[uint64]bool{}
	for _, m := range found {
		inside := docWithin(list, m.Lo, m.Hi)
		if len(inside) != m.Pairs || m.Pairs < 1 || m.Pairs > most {
			t.Fatalf("%s: %+v has the keys %v", what, m, inside)
		}
		for _, key := range inside {
			if gone[key] {
				t.Fatalf("%s: key %d goes twice", what, key)
			}
			gone[key] = true
		}
		if !slices.ContainsFunc(docJoin(table), func(s api.Segment) bool { return s.Host == m.From && s.Lo <= m.Lo && m.Hi <= s.Hi }) {
			t.Fatalf("%s: %+v lies in no segment of its giver", what, m)
		}
	}
	if fewest := docFewest(before); len(gone) != fewest {
		t.Fatalf("%s: %d keys go, %d are enough", what, len(gone), fewest)
	}
	after, e := plan.Play(table, found)
	isSame(t, what, e, api.OK)
	targets, _ := plan.Targets(before)
	loads, e := plan.Loads(hosts, after, list)
	isList(t, what, loads, e, targets, api.OK)
	if slices.Max(loads)-slices.Min(loads) > 1 {
		t.Fatalf("%s: the loads %v", what, loads)
	}
}

func TestP15_6And7EvenByTheFewest(t *testing.T) {
	for seed := range 2000 {
		d := diceOf(seed)
		hosts := 1 + d.Intn(8)
		isGood(t, hosts, d.tilted(14, hosts), d.keys(d.Intn(150)), 1+d.Intn(32))
	}
	for seed := range 20 {
		d := diceOf(seed)
		isGood(t, 16, d.tilted(40, 16), d.keys(d.Intn(400)), 1+d.Intn(32))
	}
}

// One move at a time, the plan made anew behind each: each turn leaves a plan with just so many pairs fewer as its move had.
func TestP15_7OneMoveAtATime(t *testing.T) {
	for seed := range 300 {
		d := diceOf(seed)
		hosts, most := 1+d.Intn(8), 1+d.Intn(32)
		table, list := d.tilted(14, hosts), d.keys(d.Intn(150))
		left := pairsOf(t, hosts, table, list, most)
		for left > 0 {
			found, _ := plan.Moves(hosts, table, list, most)
			table, _ = plan.Play(table, found[:1])
			now := pairsOf(t, hosts, table, list, most)
			isSame(t, fmt.Sprint("pairs left behind ", found[0]), now, left-found[0].Pairs)
			left = now
		}
	}
}

func pairsOf(t *testing.T, hosts int, table []api.Segment, list []uint64, most int) int {
	t.Helper()
	found, e := plan.Moves(hosts, table, list, most)
	isSame(t, "Moves", e, api.OK)
	sum := 0
	for _, m := range found {
		sum += m.Pairs
	}
	return sum
}
