package text_test

import (
	"fmt"
	"math"
	"slices"
	"strings"
	"testing"
	"unsafe"

	"shard/api"
	"shard/text"
)

// callAll calls every call of the layer with a string wherever one goes, and tells all that they answered.
func callAll(s string) []any {
	var out []any
	add := func(answers ...any) { out = append(out, answers...) }
	add(text.Pieces(s), text.Quote(s), text.Width(s))
	three := func(a any, at int, e api.Errno) { add(a, at, e) }
	value, at, e := text.Unquote(s)
	three(value, at, e)
	words, at, e := text.Words(s)
	three(words, at, e)
	name, at, e := text.Name(s)
	three(name, at, e)
	n, at, e := text.Number(s)
	three(n, at, e)
	for _, list := range [][]api.Word{{{Text: s}}, {{Text: s, Quoted: true}}, {{Text: s, At: math.MinInt}, {Text: "b"}}} {
		line, at, e := text.Join(list)
		three(line, at, e)
	}
	for _, rows := range [][][]string{{{s}}, {{s, s}, nil, {"a", s}}} {
		lines, at, e := text.Table(rows)
		three(lines, at, e)
	}
	for _, cols := range []int{math.MinInt, -1, 0, 1, 3, api.MaxCols, math.MaxInt} {
		add(text.Clip(s, cols))
		for side := -1; side <= 3; side++ {
			padded, e := text.Pad(s, cols, side)
			add(padded, e)
		}
	}
	return out
}

func TestP1_15NoCallPanicsAndAllAnswerTheSameAgain(t *testing.T) {
	texts := oddStrings(1500, 10)
	for _, p := range parts {
		texts = append(texts, p, strings.Repeat(p, 5000), `"`+strings.Repeat(p, 5000), "0x"+p, "é"+p)
	}
	for _, s := range texts {
		before := strings.Clone(s)
		first, again := callAll(s), callAll(s)
		if fmt.Sprint(first) != fmt.Sprint(again) {
			t.Fatalf("with %.40q: two answers differ", s)
		}
		if s != before {
			t.Fatalf("%.40q was changed", before)
		}
	}
}

func TestP1_15LongStrings(t *testing.T) {
	for _, p := range []string{"\xff", "a", "日", "\u0301", "\"", "\\", "\\n", "\x00"} {
		s := strings.Repeat(p, 1<<18)
		if got := text.Pieces(s); len(got) != len(text.Pieces(p))<<18 {
			t.Errorf("%q, often: %d pieces", p, len(got))
		}
		if got, at, e := text.Unquote(text.Quote(s)); got != s || at != 0 || e != api.OK {
			t.Errorf("%q, often: Unquote(Quote) = %d bytes, %d, %d", p, len(got), at, e)
		}
		if got := text.Width(s); got != text.Width(p)<<18 {
			t.Errorf("%q, often: Width %d", p, got)
		}
		callAll(s)
	}
}

func TestP1_15EmptyLists(t *testing.T) {
	if line, at, e := text.Join(nil); line != "" || at != 0 || e != api.OK {
		t.Errorf("Join(nil) = %q, %d, %d", line, at, e)
	}
	if lines, at, e := text.Table(nil); len(lines) != 0 || at != 0 || e != api.OK {
		t.Errorf("Table(nil) = %q, %d, %d", lines, at, e)
	}
}

// apart tells whether no two of the strings share memory.
func apart(all []string) bool {
	type place struct{ from, to uintptr }
	var places []place
	for _, s := range all {
		if s != "" {
			from := uintptr(unsafe.Pointer(unsafe.StringData(s)))
			places = append(places, place{from, from + uintptr(len(s))})
		}
	}
	for i, a := range places {
		for _, b := range places[i+1:] {
			if a.from < b.to && b.from < a.to {
				return false
			}
		}
	}
	return true
}

func TestP1_15AnswersAreNewMemory(t *testing.T) {
	rune1, _ := text.Encode('a')
	rune2, _ := text.Encode('a')
	for _, s := range []string{"a", "ab", "abc-def", "日本", "7"} {
		s = strings.Clone(s)
		all := []string{s, rune1, rune2}
		for range 2 {
			clipped, short := text.Clip(s, 1<<20), text.Clip(s, 2)
			padded, _ := text.Pad(s, 0, 0)
			name, _, _ := text.Name(s)
			line, _, _ := text.Join([]api.Word{{Text: s}})
			value, _, _ := text.Unquote(text.Quote(s))
			all = append(all, clipped, short, padded, name, line, value, text.Quote(s))
			words, _, _ := text.Words(s)
			for _, w := range words {
				all = append(all, w.Text)
			}
			lines, _, _ := text.Table([][]string{{s}, {s}, {"a", s}})
			all = append(all, lines...)
			for form := range 3 {
				digits, _ := text.Digits(7, form)
				all = append(all, digits)
			}
		}
		if !apart(all) {
			t.Errorf("with %q: answers share memory with one another or with the argument", s)
		}
	}
	line := strings.Clone(`one one "two" one`)
	words, _, _ := text.Words(line)
	all := []string{line}
	for _, w := range words {
		all = append(all, w.Text)
	}
	if !apart(all) {
		t.Error("words share memory with one another or with their line")
	}
}

func TestP1_15ListsAreNotChangedOrKept(t *testing.T) {
	words := []api.Word{{Text: "a", At: 3}, {Text: "b c", Quoted: true, At: -1}}
	before := slices.Clone(words)
	text.Join(words)
	if !slices.Equal(words, before) {
		t.Errorf("Join changed its words to %v", words)
	}
	rows := [][]string{{"a", "bb"}, {"ccc"}}
	lines, _, _ := text.Table(rows)
	if !slices.Equal(rows[0], []string{"a", "bb"}) || !slices.Equal(rows[1], []string{"ccc"}) {
		t.Errorf("Table changed its rows to %q", rows)
	}
	rows[0][0] = "z"
	lines[1] = "y"
	if again, _, _ := text.Table([][]string{{"a", "bb"}, {"ccc"}}); !slices.Equal(again, []string{"a    bb", "ccc"}) {
		t.Errorf("Table answered %q", again)
	}
	pieces := text.Pieces("ab")
	pieces[0].Rune = 'z'
	if again := text.Pieces("ab"); again[0].Rune != 'a' {
		t.Errorf("Pieces answered %v", again)
	}
}
