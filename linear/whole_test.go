package linear_test

import (
	"testing"

	"shard/api"
	"shard/history"
	"shard/linear"
)

// A history as text, from layer 13, judged.
func TestWholeFromText(t *testing.T) {
	const text = `c0 0..3 ok set seq=1 key=5 value="a"
c1 1..2 ok "a" get seq=1 key=5
c1 4.. unknown delete seq=2 key=5
c2 5..10 ok scan seq=1 key=0 hi=9 limit=4
c0 6..7 ok "a" get seq=2 key=5
c0 8..9 missing get seq=3 key=5
c3 11..12 nocredit set seq=1 key=6 value="b"
c3 13..16 ok cas seq=2 key=6 old=none value="c"
c0 14..15 differs cas seq=4 key=6 old="c" value="d"
`
	calls, line, e := history.Parse(text)
	if e != api.OK {
		t.Fatal(line, e)
	}
	isChecked(t, calls, api.Verdict{Ok: true, Order: []int{0, 1, 4, 2, 5, 6, 8, 7}}, api.OK)
	// Without the delete nothing could have made the value go.
	without := append(calls[:2:2], calls[3:]...)
	isChecked(t, without, api.Verdict{Key: 5}, api.OK)
	only := history.Only(without, 5)
	isSame(t, "its calls", only, []int{0, 1, 3, 4})
}

// The rules that layer 13 has for times and keys are those of this layer.
func TestWholeAgainstHistory(t *testing.T) {
	for seed := range 300 {
		d := diceOf(seed)
		calls, _ := d.run(2, 1)
		a, b := calls[0], calls[1]
		a.Req, b.Req = set("a"), set("b")
		if a.End != -1 {
			a.Status, a.Value = api.StOK, nil
		}
		if b.End != -1 {
			b.Status, b.Value = api.StOK, nil
		}
		isSame(t, "before", linear.Obeys(list(a, b), []int{1, 0}), !history.Before(a, b))
	}
}
