package text_test

import (
	"math/rand"
	"strings"

	"shard/api"
)

// span is a range of runes, both ends within.
type span struct{ first, last int32 }

func in(r int32, spans []span) bool {
	for _, s := range spans {
		if s.first <= r && r <= s.last {
			return true
		}
	}
	return false
}

// The kinds of runes as the chapter lists them, apart from the program's own tables.
var (
	docHidden = []span{{0, 0x1F}, {0x7F, 0xA0}, {0xAD, 0xAD}, {0x61C, 0x61C}, {0x1680, 0x1680}, {0x180E, 0x180E}, {0x2000, 0x200F}, {0x2028, 0x202F}, {0x205F, 0x206F}, {0x3000, 0x3000}, {0xD800, 0xDFFF}, {0xE000, 0xF8FF}, {0xFDD0, 0xFDEF}, {0xFEFF, 0xFEFF}, {0xFFF9, 0xFFFB}, {0xFFFE, 0xFFFF}, {0xE0000, 0x10FFFF}}
	docMarks  = []span{{0x300, 0x36F}, {0x483, 0x489}, {0x591, 0x5BD}, {0x64B, 0x65F}, {0x1AB0, 0x1AFF}, {0x1DC0, 0x1DFF}, {0x20D0, 0x20FF}, {0xFE00, 0xFE0F}, {0xFE20, 0xFE2F}}
	docWide   = []span{{0x1100, 0x115F}, {0x2E80, 0x303E}, {0x3041, 0x4DBF}, {0x4E00, 0xA4CF}, {0xAC00, 0xD7A3}, {0xF900, 0xFAFF}, {0xFE30, 0xFE6F}, {0xFF01, 0xFF60}, {0xFFE0, 0xFFE6}, {0x1F300, 0x1F64F}, {0x1F900, 0x1F9FF}, {0x20000, 0x3FFFD}}
	docLetter = []span{{'A', 'Z'}, {'a', 'z'}, {0xC0, 0xD6}, {0xD8, 0xF6}, {0xF8, 0xFF}, {0x391, 0x3A1}, {0x3A3, 0x3A9}, {0x3B1, 0x3C9}, {0x410, 0x44F}}
	docLarge  = []span{{'A', 'Z'}, {0xC0, 0xDE}, {0x391, 0x3A9}, {0x410, 0x42F}}
)

func docIsHidden(r int32) bool {
	if r < 0 || r > 0x10FFFF || in(r, docHidden) {
		return true
	}
	return r >= 0x10000 && (r%0x10000 == 0xFFFE || r%0x10000 == 0xFFFF)
}

func docFold(r int32) int32 {
	switch {
	case r == 0x3C2:
		return 0x3C3
	case in(r, docLarge):
		return r + 32
	}
	return r
}

func docWidth(r int32) int {
	switch {
	case docIsHidden(r), in(r, docMarks):
		return 0
	case in(r, docWide):
		return 2
	}
	return 1
}

// row is a row of the chapter's table of well-formed encodings.
type row struct {
	from  int32
	bytes [][2]byte
}

var docEncodings = []row{
	{0x0, [][2]byte{{0x00, 0x7F}}},
	{0x80, [][2]byte{{0xC2, 0xDF}, {0x80, 0xBF}}},
	{0x800, [][2]byte{{0xE0, 0xE0}, {0xA0, 0xBF}, {0x80, 0xBF}}},
	{0x1000, [][2]byte{{0xE1, 0xEC}, {0x80, 0xBF}, {0x80, 0xBF}}},
	{0xD000, [][2]byte{{0xED, 0xED}, {0x80, 0x9F}, {0x80, 0xBF}}},
	{0xE000, [][2]byte{{0xEE, 0xEF}, {0x80, 0xBF}, {0x80, 0xBF}}},
	{0x10000, [][2]byte{{0xF0, 0xF0}, {0x90, 0xBF}, {0x80, 0xBF}, {0x80, 0xBF}}},
	{0x40000, [][2]byte{{0xF1, 0xF3}, {0x80, 0xBF}, {0x80, 0xBF}, {0x80, 0xBF}}},
	{0x100000, [][2]byte{{0xF4, 0xF4}, {0x80, 0x8F}, {0x80, 0xBF}, {0x80, 0xBF}}},
}

func (w row) fits(s string) bool {
	if len(s) < len(w.bytes) {
		return false
	}
	for i, b := range w.bytes {
		if s[i] < b[0] || s[i] > b[1] {
			return false
		}
	}
	return true
}

// runeOf counts the encodings of a row up to s, from the row's first rune on.
func (w row) runeOf(s string) int32 {
	n := int32(0)
	for i, b := range w.bytes {
		n = n*(int32(b[1]-b[0])+1) + int32(s[i]-b[0])
	}
	return w.from + n
}

func docPieces(s string) []api.Piece {
	var out []api.Piece
	for at := 0; at < len(s); {
		p := api.Piece{Rune: int32(s[at]), At: at, Size: 1, Broken: true}
		for _, w := range docEncodings {
			if w.fits(s[at:]) {
				p = api.Piece{Rune: w.runeOf(s[at:]), At: at, Size: len(w.bytes)}
			}
		}
		out = append(out, p)
		at += p.Size
	}
	return out
}

// parts are texts of which odd strings are laid together.
var parts = []string{
	"a", "b", "Z", "7", "0", "x", "0x", "f", "u", "n", "{", "}", "#", " ", " ", "  ", "\t", "\n", "\r", "\x00", "\x1f", "\x7f", "\"", "\"", "\" ", " \"", "\\", "\\\"", "\\\\", "\\n", "\\r", "\\t", "\\x4", "\\x41", "\\xfF", "\\u{", "\\u{41}", "\\u{1F600}", "\\u{d800}", "-", "_", ".",
	"é", "É", "Σ", "ς", "Щ", "×", "日", "！", "😀", "\u0301", "\u00ad", "\u3000", "\u0085", "\uFFFD", "\uFEFF", "\U0002FFFE", "\U0010FFFF", "\U00020000",
	"\x80", "\xbf", "\xc0", "\xc3", "\xe6\x97", "\xef\xbf", "\xed\xa0\x80", "\xf0\x9f\x98", "\xf4\x90\x80\x80", "\xff",
}

// oddStrings gives strings of up to most parts: always the same ones.
func oddStrings(count, most int) []string {
	rng := rand.New(rand.NewSource(1))
	out := []string{""}
	for range count {
		var b strings.Builder
		for range rng.Intn(most + 1) {
			b.WriteString(parts[rng.Intn(len(parts))])
		}
		out = append(out, b.String())
	}
	return out
}
