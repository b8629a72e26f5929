package linear_test

import (
	"bytes"
	"fmt"
	"slices"
	"strings"
	"testing"

	"shard/api"
	"shard/linear"
)

// isStep holds a step against the document's; beside no value the bytes count for nothing.
func isStep(t *testing.T, c api.Call, has bool, value string) bool {
	t.Helper()
	v := none
	if has {
		v = docSome([]byte(value))
	}
	wantCan, wantThen := docStep(c, v)
	can, then, after := linear.Step(c, has, []byte(value))
	got := none
	if then {
		got = docSome(after)
	}
	if can != wantCan || got != wantThen || !then && len(after) > 0 {
		t.Errorf("Step(%+v, %v, %q): %v, %v, %q; want %v, %s", c, has, value, can, then, after, wantCan, wantThen)
	}
	return can
}

func TestP14_1StepsByTheTable(t *testing.T) {
	for _, c := range []struct {
		call  api.Call
		on    string
		can   bool
		after string
	}{
		{got("a", 0, 1), "+a", true, "+a"}, {got("a", 0, 1), "+b", false, none}, {got("a", 0, 1), none, false, none}, {got("", 0, 1), none, false, none}, {got("", 0, 1), "+", true, "+"}, {got("a", 0, 1), "+ab", false, none},
		{missed(0, 1), none, true, none}, {missed(0, 1), "+", false, none}, {missed(0, 1), "+a", false, none},
		{done(set("b"), 0, 1), none, true, "+b"}, {done(set("b"), 0, 1), "+a", true, "+b"}, {done(set(""), 0, 1), "+a", true, "+"},
		{known(set("b"), api.StNoCredit, "", 0, 1), none, true, none}, {known(set("b"), api.StNoCredit, "", 0, 1), "+a", false, none}, {known(set("b"), api.StNoCredit, "", 0, 1), "+b", false, none},
		{done(del(), 0, 1), "+a", true, none}, {done(del(), 0, 1), "+", true, none}, {done(del(), 0, 1), none, false, none},
		{known(del(), api.StMissing, "", 0, 1), none, true, none}, {known(del(), api.StMissing, "", 0, 1), "+", false, none},
		{done(cas("a", "b"), 0, 1), "+a", true, "+b"}, {done(cas("a", "b"), 0, 1), "+c", false, none}, {done(cas("a", "b"), 0, 1), none, false, none}, {done(cas("", "b"), 0, 1), "+", true, "+b"}, {done(cas("", "b"), 0, 1), none, false, none},
		{known(cas("a", "b"), api.StDiffers, "", 0, 1), "+a", false, none}, {known(cas("a", "b"), api.StDiffers, "", 0, 1), "+c", true, "+c"}, {known(cas("a", "b"), api.StDiffers, "", 0, 1), none, true, none}, {known(cas("", "b"), api.StDiffers, "", 0, 1), none, true, none},
		{done(create("b"), 0, 1), none, true, "+b"}, {done(create("b"), 0, 1), "+", false, none},
		{known(create("b"), api.StDiffers, "", 0, 1), "+a", true, "+a"}, {known(create("b"), api.StDiffers, "", 0, 1), "+", true, "+"}, {known(create("b"), api.StDiffers, "", 0, 1), none, false, none},
		{known(create("b"), api.StNoCredit, "", 0, 1), none, true, none}, {known(create("b"), api.StNoCredit, "", 0, 1), "+a", false, none},
		{open(get(), 0), none, true, none}, {open(get(), 0), "+a", true, "+a"},
		{open(set("b"), 0), none, true, "+b"}, {open(set("b"), 0), "+a", true, "+b"},
		{open(del(), 0), none, true, none}, {open(del(), 0), "+a", true, none},
		{open(cas("a", "b"), 0), "+a", true, "+b"}, {open(cas("a", "b"), 0), "+c", true, "+c"}, {open(cas("a", "b"), 0), none, true, none},
		{open(create("b"), 0), none, true, "+b"}, {open(create("b"), 0), "+", true, "+"}, {open(create("b"), 0), "+a", true, "+a"},
		{done(scan(), 0, 1), none, false, none}, {done(scan(), 0, 1), "+a", false, none}, {open(scan(), 0), "+a", false, none},
	} {
		can, then, after := linear.Step(c.call, c.on != none, []byte(c.on[1:]))
		if can != c.can || then != (c.after != none) || string(after) != c.after[1:] {
			t.Errorf("Step(%+v, %s): %v, %v, %q; want %v, %s", c.call, c.on, can, then, after, c.can, c.after)
		}
		isStep(t, c.call, c.on != none, c.on[1:])
	}
}

// All kinds with all statuses, places, values and flags: which calls may be, and what they do.
func TestP14_1AllCalls(t *testing.T) {
	can := map[api.Kind]int{}
	for kind := range api.Kind(15) {
		for status := range api.Status(12) {
			for _, places := range [][2]int{{0, 1}, {0, -1}, {0, 0}, {3, 2}, {3, 4}, {-1, -1}, {-1, 0}, {-1, 1}, {0, -2}, {5, -1}, {farPlace - 1, farPlace}, {farPlace, farPlace}, {farPlace, -1}, {-farPlace - 1, farPlace}, {0, -farPlace - 1}} {
				for flags := range 16 {
					pick := func(bit int) []byte { return []byte("a"[:flags>>bit&1]) }
					c := api.Call{Req: api.Request{Kind: kind, Key: 9, Has: flags>>3 != 0, Old: pick(0), Value: pick(1)}, Status: status, Value: pick(2), Begin: places[0], End: places[1]}
					for _, value := range []string{"", "a", "b"} {
						for _, has := range []bool{false, true} {
							if isStep(t, c, has, value) {
								can[kind]++
							}
						}
					}
				}
			}
		}
	}
	if len(can) != 4 || slices.Min([]int{can[api.KGet], can[api.KSet], can[api.KDelete], can[api.KCas]}) < 100 {
		t.Errorf("%v", can)
	}
}

// A KCas with Has is never short of credits.
func TestP14_1NoCreditWithHas(t *testing.T) {
	for _, has := range []bool{false, true} {
		for _, value := range []string{"", "a"} {
			c := known(cas("a", "b"), api.StNoCredit, "", 0, 1)
			if can, _, _ := linear.Step(c, has, []byte(value)); can {
				t.Errorf("%v %q", has, value)
			}
		}
	}
}

// The fields that are not named are not looked at.
func TestP14_1OtherFieldsCountForNothing(t *testing.T) {
	for seed := range 500 {
		d := diceOf(seed)
		c := d.any(5)
		other := c
		other.Who, other.Seq, other.Req.Hi, other.Req.Limit, other.Req.Key = api.Addr(d.Intn(256)), d.Uint64(), d.Uint64(), uint8(d.Intn(256)), d.Uint64()
		switch c.Req.Kind {
		case api.KGet, api.KDelete:
			other.Req.Value, other.Req.Old, other.Req.Has = []byte("x"), []byte("y"), true
		case api.KSet:
			other.Req.Old, other.Req.Has = []byte("y"), true
		case api.KCas:
			if !c.Req.Has {
				other.Req.Old = []byte("a")
			}
		}
		for _, on := range []string{none, "+", "+a", "+b", "+ab"} {
			a, b, x := linear.Step(c, on != none, []byte(on[1:]))
			aa, bb, y := linear.Step(other, on != none, []byte(on[1:]))
			isSame(t, fmt.Sprintf("%+v on %s", other, on), []any{aa, bb, y}, []any{a, b, x})
		}
	}
}

// Where there is no value, its bytes count for nothing.
func TestP14_1BytesOfNoValue(t *testing.T) {
	for seed := range 300 {
		c := diceOf(seed).any(5)
		for _, value := range []string{"", "a", "b", "ab"} {
			isStep(t, c, false, value)
		}
	}
}

// Values of any length, which differ only in their last byte.
func TestP14_1LongValues(t *testing.T) {
	long := strings.Repeat("\xff", 1<<20)
	for _, c := range []api.Call{got(long, 0, 1), got(long+"a", 0, 1), done(set(long), 0, 1), done(cas(long+"a", long+"b"), 0, 1), known(cas(long+"a", long), api.StDiffers, "", 0, 1), open(cas(long+"b", long), 0)} {
		for _, value := range []string{long, long + "a", long + "b", ""} {
			want, behind := docStep(c, docSome([]byte(value)))
			can, then, after := linear.Step(c, true, []byte(value))
			if can != want || then != (behind != none) || !bytes.Equal(after, []byte(behind[1:])) {
				t.Errorf("kind %d, %d and %d bytes: %v, %v, %d bytes", c.Req.Kind, len(c.Value), len(value), can, then, len(after))
			}
		}
	}
}
