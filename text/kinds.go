package text

import "unicode/utf8"

// kind is what a rune looks like in a line.
type kind uint8

const (
	ordinary kind = iota
	hidden
	mark
	wide
)

// kindSpan is a range of runes of one kind, both ends within.
type kindSpan struct {
	first, last rune
	kind        kind
}

// kindSpans rise, so that a search may stop at the first one above its rune.
var kindSpans = []kindSpan{
	{0x0000, 0x001F, hidden},
	{0x007F, 0x00A0, hidden},
	{0x00AD, 0x00AD, hidden},
	{0x0300, 0x036F, mark},
	{0x0483, 0x0489, mark},
	{0x0591, 0x05BD, mark},
	{0x061C, 0x061C, hidden},
	{0x064B, 0x065F, mark},
	{0x1100, 0x115F, wide},
	{0x1680, 0x1680, hidden},
	{0x180E, 0x180E, hidden},
	{0x1AB0, 0x1AFF, mark},
	{0x1DC0, 0x1DFF, mark},
	{0x2000, 0x200F, hidden},
	{0x2028, 0x202F, hidden},
	{0x205F, 0x206F, hidden},
	{0x20D0, 0x20FF, mark},
	{0x2E80, 0x2FFF, wide},
	{0x3000, 0x3000, hidden},
	{0x3001, 0x303E, wide},
	{0x3041, 0x4DBF, wide},
	{0x4E00, 0xA4CF, wide},
	{0xAC00, 0xD7A3, wide},
	{0xD800, 0xDFFF, hidden},
	{0xE000, 0xF8FF, hidden},
	{0xF900, 0xFAFF, wide},
	{0xFDD0, 0xFDEF, hidden},
	{0xFE00, 0xFE0F, mark},
	{0xFE20, 0xFE2F, mark},
	{0xFE30, 0xFE6F, wide},
	{0xFEFF, 0xFEFF, hidden},
	{0xFF01, 0xFF60, wide},
	{0xFFE0, 0xFFE6, wide},
	{0xFFF9, 0xFFFB, hidden},
	{0x1F300, 0x1F64F, wide},
	{0x1F900, 0x1F9FF, wide},
	{0x20000, 0x3FFFD, wide},
	{0xE0000, 0x10FFFF, hidden},
}

// kindOf tells a rune's kind. The last two runes of every 65536 are hidden: a rule, not 17 rows,
// and asked first, for two of them lie among the wide ones.
func kindOf(r rune) kind {
	if r < 0 || r > utf8.MaxRune || r&0xFFFE == 0xFFFE {
		return hidden
	}
	for _, s := range kindSpans {
		if r < s.first {
			break
		}
		if r <= s.last {
			return s.kind
		}
	}
	return ordinary
}

// letterSpan is a range of letters, both ends within, and how far their small forms are.
type letterSpan struct {
	first, last, further rune
}

var letterSpans = []letterSpan{
	{'A', 'Z', 32},
	{'a', 'z', 0},
	{0x00C0, 0x00D6, 32},
	{0x00D8, 0x00DE, 32},
	{0x00DF, 0x00F6, 0},
	{0x00F8, 0x00FF, 0},
	{0x0391, 0x03A1, 32},
	{0x03A3, 0x03A9, 32},
	{0x03B1, 0x03C1, 0},
	{0x03C2, 0x03C2, 1},
	{0x03C3, 0x03C9, 0},
	{0x0410, 0x042F, 32},
	{0x0430, 0x044F, 0},
}

// foldLetter gives a letter's small form, and tells whether the rune is a letter.
func foldLetter(r rune) (rune, bool) {
	for _, s := range letterSpans {
		if s.first <= r && r <= s.last {
			return r + s.further, true
		}
	}
	return 0, false
}
