package text_test

import (
	"math"
	"slices"
	"strings"
	"testing"

	"shard/api"
	"shard/text"
)

func TestP1_1PiecesExamples(t *testing.T) {
	for _, c := range []struct {
		s    string
		want []api.Piece
	}{
		{"", nil},
		{"a\xc3\xa9\xff", []api.Piece{{Rune: 97, At: 0, Size: 1}, {Rune: 233, At: 1, Size: 2}, {Rune: 255, At: 3, Size: 1, Broken: true}}},
		{"\xef\xbf\xbd", []api.Piece{{Rune: 65533, At: 0, Size: 3}}},
		{"\xef\xbf\xef\xbf\xbd", []api.Piece{{Rune: 239, At: 0, Size: 1, Broken: true}, {Rune: 191, At: 1, Size: 1, Broken: true}, {Rune: 65533, At: 2, Size: 3}}},
		{"\xed\xa0\x80", []api.Piece{{Rune: 237, At: 0, Size: 1, Broken: true}, {Rune: 160, At: 1, Size: 1, Broken: true}, {Rune: 128, At: 2, Size: 1, Broken: true}}},
		{"\x00\x7f", []api.Piece{{Rune: 0, At: 0, Size: 1}, {Rune: 127, At: 1, Size: 1}}},
	} {
		if got := text.Pieces(c.s); !slices.Equal(got, c.want) {
			t.Errorf("Pieces(%q) = %v, want %v", c.s, got, c.want)
		}
	}
}

// Every string of up to four of the bytes at which the table of encodings turns.
func TestP1_1PiecesAtEveryTurn(t *testing.T) {
	turns := []byte{0x00, 0x61, 0x7F, 0x80, 0x8F, 0x90, 0x9F, 0xA0, 0xBD, 0xBF, 0xC0, 0xC1, 0xC2, 0xDF, 0xE0, 0xE1, 0xEC, 0xED, 0xEE, 0xEF, 0xF0, 0xF1, 0xF3, 0xF4, 0xF5, 0xFF}
	var check func(s []byte)
	check = func(s []byte) {
		if got, want := text.Pieces(string(s)), docPieces(string(s)); !slices.Equal(got, want) {
			t.Fatalf("Pieces(%q) = %v, want %v", s, got, want)
		}
		if len(s) == 4 {
			return
		}
		for _, b := range turns {
			check(append(slices.Clone(s), b))
		}
	}
	check(nil)
}

func TestP1_1PiecesLieEndToEnd(t *testing.T) {
	for _, s := range oddStrings(3000, 12) {
		var b strings.Builder
		got := text.Pieces(s)
		for _, p := range got {
			if p.At != b.Len() {
				t.Fatalf("Pieces(%q): a piece at %d, want %d", s, p.At, b.Len())
			}
			b.WriteString(s[p.At : p.At+p.Size])
		}
		if b.String() != s || !slices.Equal(got, docPieces(s)) {
			t.Fatalf("Pieces(%q) = %v, want %v", s, got, docPieces(s))
		}
	}
}

func TestP1_2EncodeEveryRune(t *testing.T) {
	for r := int32(-2); r <= 0x110002; r++ {
		s, e := text.Encode(r)
		if r < 0 || r > 0x10FFFF || 0xD800 <= r && r <= 0xDFFF {
			if s != "" || e != api.ErrRune {
				t.Fatalf("Encode(%#x) = %q, %d, want ErrRune", r, s, e)
			}
			continue
		}
		want := api.Piece{Rune: r, Size: len(s)}
		if got := docPieces(s); e != api.OK || len(got) != 1 || got[0] != want {
			t.Fatalf("Encode(%#x) = %q, %d", r, s, e)
		}
	}
	for _, r := range []int32{math.MinInt32, math.MaxInt32} {
		if s, e := text.Encode(r); s != "" || e != api.ErrRune {
			t.Errorf("Encode(%#x) = %q, %d, want ErrRune", r, s, e)
		}
	}
}

func TestP1_3PlainOfEveryRune(t *testing.T) {
	for r := int32(-2); r <= 0x110002; r++ {
		if got := text.Plain(r); got != !docIsHidden(r) {
			t.Errorf("Plain(%#x) = %t", r, got)
		}
	}
	// 0xFFFF0020 and its like: only the whole number counts, not its last digits.
	for _, r := range []int32{math.MinInt32, math.MinInt32 + 0x20, math.MaxInt32, 0x1000061, -0x10000 + 0x61} {
		if text.Plain(r) {
			t.Errorf("Plain(%#x) = true", r)
		}
	}
}

func TestP1_3MarksAndWideRunesArePlain(t *testing.T) {
	for _, spans := range [][]span{docMarks, docWide} {
		for _, s := range spans {
			if !text.Plain(s.first) || !text.Plain(s.last) {
				t.Errorf("Plain(%#x), Plain(%#x): not both true", s.first, s.last)
			}
		}
	}
	if !text.Plain(' ') {
		t.Error("the blank U+0020 is not plain")
	}
}
