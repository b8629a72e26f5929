package plan_test

import (
	"testing"

	"shard/api"
)

var two = []api.Segment{{Lo: 0, Hi: 99, Host: 0}, {Lo: 100, Hi: top, Host: 1}}

func TestP15_5Play(t *testing.T) {
	isPlay(t, two, nil, two, api.OK)
	isPlay(t, two, moves(), two, api.OK)
	isPlay(t, two, moves(move(0, 1, 50, 99, 0)), segs(seg(0, 49, 0), seg(50, top, 1)), api.OK)
	isPlay(t, two, moves(move(0, 1, 0, 49, 0)), segs(seg(0, 49, 1), seg(50, 99, 0), seg(100, top, 1)), api.OK)
	isPlay(t, two, moves(move(0, 1, 0, 99, 0)), all(1), api.OK)
	isPlay(t, two, moves(move(1, 0, 100, top, 0)), all(0), api.OK)
	isPlay(t, two, moves(move(1, 2, 100, top, 0)), segs(seg(0, 99, 0), seg(100, top, 2)), api.OK)
	isPlay(t, two, moves(move(1, 15, top, top, 0)), segs(seg(0, 99, 0), seg(100, top-1, 1), seg(top, top, 15)), api.OK)
	isPlay(t, two, moves(move(0, 15, 0, 0, 0)), segs(seg(0, 0, 15), seg(1, 99, 0), seg(100, top, 1)), api.OK)
	isPlay(t, all(15), moves(move(15, 0, 0, top, 0)), all(0), api.OK)
}

func TestP15_5OneMoveBehindTheOther(t *testing.T) {
	isPlay(t, two, moves(move(0, 1, 50, 99, 0), move(1, 2, 50, top, 0), move(2, 0, 50, 60, 0)), segs(seg(0, 60, 0), seg(61, top, 2)), api.OK)
	// There and back again.
	isPlay(t, two, moves(move(0, 5, 10, 20, 0), move(5, 0, 10, 20, 0)), two, api.OK)
	isPlay(t, two, moves(move(0, 5, 10, 20, 0), move(5, 6, 12, 18, 0), move(6, 0, 13, 15, 0)), segs(seg(0, 9, 0), seg(10, 11, 5), seg(12, 12, 6), seg(13, 15, 0), seg(16, 18, 6), seg(19, 20, 5), seg(21, 99, 0), seg(100, top, 1)), api.OK)
	// Two runs of one host that have come together are one run.
	isPlay(t, two, moves(move(0, 1, 90, 99, 0), move(1, 3, 95, 105, 0)), segs(seg(0, 89, 0), seg(90, 94, 1), seg(95, 105, 3), seg(106, top, 1)), api.OK)
	// Only what is there when its turn comes may go.
	isPlay(t, two, moves(move(1, 3, 95, 105, 0), move(0, 1, 90, 99, 0)), nil, api.ErrMove)
	isPlay(t, two, moves(move(0, 1, 50, 99, 0), move(0, 1, 50, 99, 0)), nil, api.ErrMove)
	isPlay(t, two, moves(move(0, 1, 50, 60, 0), move(0, 2, 40, 70, 0)), nil, api.ErrMove)
}

func TestP15_5MovesThatMayNotBe(t *testing.T) {
	for _, wrong := range []api.Move{
		move(0, 1, 50, 100, 1), move(0, 1, 0, top, 1), move(0, 1, 99, 100, 1), move(1, 0, 99, 100, 1), move(1, 0, 99, top, 1),
		move(1, 0, 50, 60, 1), move(0, 1, 100, 100, 1), move(2, 1, 50, 60, 1), move(15, 1, 50, 60, 1),
		move(0, 1, 51, 50, 1), move(0, 1, top, 0, 1), move(1, 0, top, top-1, 1), move(1, 0, 101, 100, 1),
		move(0, 0, 50, 60, 1), move(1, 1, 200, 300, 1), move(2, 2, 50, 60, 1),
		move(0, 16, 50, 60, 1), move(0, 17, 50, 60, 1), move(0, 32, 50, 60, 1), move(0, 255, 50, 60, 1),
		move(16, 0, 50, 60, 1), move(255, 0, 50, 60, 1), move(255, 254, 50, 60, 1),
	} {
		isPlay(t, two, moves(wrong), nil, api.ErrMove)
		isPlay(t, two, moves(move(0, 1, 10, 20, 1), wrong), nil, api.ErrMove)
		isPlay(t, two, moves(wrong, move(0, 1, 10, 20, 1)), nil, api.ErrMove)
		isPlay(t, two[:1], moves(wrong), nil, api.ErrLayout)
	}
}

func TestP15_5PairsAreNotLookedAt(t *testing.T) {
	for _, pairs := range edges() {
		isPlay(t, two, moves(move(0, 1, 50, 99, pairs)), segs(seg(0, 49, 0), seg(50, top, 1)), api.OK)
	}
}

func TestP15_5Tables(t *testing.T) {
	for _, wrong := range wrongTables() {
		isPlay(t, wrong, nil, nil, api.ErrLayout)
		isPlay(t, wrong, moves(move(0, 1, 3, 3, 1)), nil, api.ErrLayout)
	}
	isPlay(t, segs(seg(0, 9, 1), seg(10, top, 1)), nil, all(1), api.OK)
	joined := segs(seg(0, 9, 1), seg(10, 19, 1), seg(20, 29, 3), seg(30, top, 3))
	isPlay(t, joined, nil, segs(seg(0, 19, 1), seg(20, top, 3)), api.OK)
	isPlay(t, joined, moves(move(1, 3, 5, 15, 0)), segs(seg(0, 4, 1), seg(5, 15, 3), seg(16, 19, 1), seg(20, top, 3)), api.OK)
}

// Behind the moves there may be more segments than a table may have.
func TestP15_5NoLimitBehindTheMoves(t *testing.T) {
	full := combed(api.MaxSegments, 2)
	last := uint64(api.MaxSegments)
	got := append(full[:api.MaxSegments-1:api.MaxSegments-1], seg(last-1, last+9, 1), seg(last+10, last+20, 7), seg(last+21, top, 1))
	isPlay(t, full, moves(move(1, 7, last+10, last+20, 3)), got, api.OK)
	isPlay(t, got, nil, nil, api.ErrLayout)
}

func TestP15_5RandomMoves(t *testing.T) {
	refused := 0
	for seed := range 6000 {
		d := diceOf(seed)
		table := d.table(10, 1+d.Intn(16))
		list := d.moves(table, d.Intn(12))
		if d.Intn(3) == 0 && len(list) > 0 {
			d.spoilMove(&list[d.Intn(len(list))])
		}
		if d.Intn(20) == 0 {
			table = d.spoilTable(table)
		}
		want, e := docPlay(table, list)
		isPlay(t, table, list, want, e)
		if e != api.OK {
			refused++
		}
	}
	if refused < 600 || refused > 5400 {
		t.Errorf("%d of 6000 were refused: too few of one kind were tried", refused)
	}
}
