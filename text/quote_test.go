package text_test

import (
	"strconv"
	"strings"
	"testing"

	"shard/api"
	"shard/text"
)

func TestP1_4QuoteExamples(t *testing.T) {
	for _, c := range []struct{ b, want string }{
		{"", `""`},
		{"a\"\n\x00\xff\u0085", `"a\"\n\u{0}\xff\u{85}"`},
		{"\\\r\t\n\"", `"\\\r\t\n\""`},
		{" ~\u00a1", "\" ~\u00a1\""},
		{"\u00a0\u00ad\u3000", `"\u{a0}\u{ad}\u{3000}"`},
		{"\x01\x1f\x7f", `"\u{1}\u{1f}\u{7f}"`},
		{"\U0010FFFF\U0002FFFE\ue000", `"\u{10ffff}\u{2fffe}\u{e000}"`},
		{"日e\u0301😀", "\"日e\u0301😀\""},
		{"\uFFFD", "\"\uFFFD\""},
		{"\xef\xbf", `"\xef\xbf"`},
		{"\x80\xed\xa0\x80", `"\x80\xed\xa0\x80"`},
		{"\\x41", `"\\x41"`},
	} {
		if got := text.Quote(c.b); got != c.want {
			t.Errorf("Quote(%q) = %s, want %s", c.b, got, c.want)
		}
	}
}

func TestP1_4QuoteOfEveryRuneAndByte(t *testing.T) {
	own := map[int32]string{'"': `\"`, '\\': `\\`, '\n': `\n`, '\r': `\r`, '\t': `\t`}
	for r := int32(0); r <= 0x10FFFF; r++ {
		s, e := text.Encode(r)
		if e != api.OK {
			continue
		}
		want := s
		if escape, ok := own[r]; ok {
			want = escape
		} else if docIsHidden(r) {
			want = `\u{` + strconv.FormatInt(int64(r), 16) + `}`
		}
		if got := text.Quote(s); got != `"`+want+`"` {
			t.Fatalf("Quote of U+%04X = %s, want %q", r, got, want)
		}
	}
	for b := 0x80; b <= 0xFF; b++ {
		if got, want := text.Quote(string([]byte{byte(b)})), `"\x`+strconv.FormatInt(int64(b), 16)+`"`; got != want {
			t.Errorf("Quote of the byte %#x = %s, want %s", b, got, want)
		}
	}
}

func TestP1_4QuoteIsPlainTextAndUnquotes(t *testing.T) {
	for _, b := range oddStrings(5000, 12) {
		q := text.Quote(b)
		for _, p := range text.Pieces(q) {
			if p.Broken || docIsHidden(p.Rune) {
				t.Fatalf("Quote(%q) = %q: its piece at %d is not plain", b, q, p.At)
			}
		}
		if got, at, e := text.Unquote(q); got != b || at != 0 || e != api.OK {
			t.Fatalf("Unquote(Quote(%q)) = %q, %d, %d", b, got, at, e)
		}
	}
}

func TestP1_5UnquoteOfTexts(t *testing.T) {
	for _, c := range []struct{ s, want string }{
		{`""`, ""},
		{`"\x41\u{1F600}"`, "A\xf0\x9f\x98\x80"},
		{`"\"\\\n\r\t"`, "\"\\\n\r\t"},
		{`"\x00\x7f\x80\xfF\xFf"`, "\x00\x7f\x80\xff\xff"},
		{`"\xc3\xa9"`, "é"},
		{`"\u{0}\u{000041}\u{10FFFF}\u{10ffff}"`, "\x00A\U0010FFFF\U0010FFFF"},
		{`"\u{d7ff}\u{e000}"`, "\ud7ff\ue000"},
		{`"\u{ad}\u{FFFD}` + "\uFFFD\"", "\u00ad\uFFFD\uFFFD"},
		{"\"日 e\u0301\"", "日 e\u0301"},
		{`"#"`, "#"},
	} {
		if got, at, e := text.Unquote(c.s); got != c.want || at != 0 || e != api.OK {
			t.Errorf("Unquote(%q) = %q, %d, %d, want %q", c.s, got, at, e, c.want)
		}
	}
}

func TestP1_5UnquoteOfFaults(t *testing.T) {
	for _, c := range []struct {
		s  string
		at int
		e  api.Errno
	}{
		{``, 0, api.ErrQuote}, {`a"b"`, 0, api.ErrQuote}, {` ""`, 0, api.ErrQuote}, {"\xff", 0, api.ErrQuote}, {`\"`, 0, api.ErrQuote},
		{`"`, 1, api.ErrQuote}, {`"a`, 2, api.ErrQuote}, {`"é`, 3, api.ErrQuote}, {`"\"`, 3, api.ErrQuote}, {`"\\\"`, 5, api.ErrQuote}, {`"\x41`, 5, api.ErrQuote}, {`"\u{41}`, 7, api.ErrQuote}, {`"\u{10ffff}`, 11, api.ErrQuote}, {`"\n`, 3, api.ErrQuote},
		{`"a"b`, 3, api.ErrQuote}, {`"" `, 2, api.ErrQuote}, {`"""`, 2, api.ErrQuote}, {"\"\"\xff", 2, api.ErrQuote}, {"\"\"\n", 2, api.ErrQuote}, {`""\q`, 2, api.ErrQuote},
		{`"\`, 1, api.ErrEscape}, {`"a\q"`, 2, api.ErrEscape}, {`"\N"`, 1, api.ErrEscape}, {`"\'"`, 1, api.ErrEscape}, {`"\ "`, 1, api.ErrEscape}, {"\"\\\n\"", 1, api.ErrEscape}, {"\"\\\xff\"", 1, api.ErrEscape}, {`"\é"`, 1, api.ErrEscape},
		{`"\x`, 1, api.ErrEscape}, {`"\x4`, 1, api.ErrEscape}, {`"\x4"`, 1, api.ErrEscape}, {`"\xg0"`, 1, api.ErrEscape}, {`"\x0g"`, 1, api.ErrEscape}, {`"\X41"`, 1, api.ErrEscape}, {"\"\\x4\xff\"", 1, api.ErrEscape},
		{`"\u`, 1, api.ErrEscape}, {`"\u41"`, 1, api.ErrEscape}, {`"\u{`, 1, api.ErrEscape}, {`"\u{}"`, 1, api.ErrEscape}, {`"\u{41`, 1, api.ErrEscape}, {`"\u{41"`, 1, api.ErrEscape}, {`"\u{123456`, 1, api.ErrEscape}, {`"\u{g}"`, 1, api.ErrEscape}, {`"\u{4g}"`, 1, api.ErrEscape}, {`"\u{ 41}"`, 1, api.ErrEscape}, {`"\U{41}"`, 1, api.ErrEscape}, {`"\u(41)"`, 1, api.ErrEscape},
		{`"\u{0000041}"`, 1, api.ErrEscape}, {`"\u{d800}"`, 1, api.ErrEscape}, {`"\u{DFFF}"`, 1, api.ErrEscape}, {`"\u{110000}"`, 1, api.ErrEscape}, {`"\u{ffffff}"`, 1, api.ErrEscape},
		{"\"a\nb\"", 2, api.ErrEscape}, {"\"\t\"", 1, api.ErrEscape}, {"\"\x00\"", 1, api.ErrEscape}, {"\"\u00ad\"", 1, api.ErrEscape}, {"\"\u3000\"", 1, api.ErrEscape}, {"\"\U0010FFFF\"", 1, api.ErrEscape},
		{"\"a\xff", 2, api.ErrBroken}, {"\"\xe6\x97\"", 1, api.ErrBroken}, {"\"é\x80\\q\"", 3, api.ErrBroken}, {"\"\\q\xff\"", 1, api.ErrEscape}, {"\"\\n\xff\n\"", 3, api.ErrBroken},
	} {
		if got, at, e := text.Unquote(c.s); got != "" || at != c.at || e != c.e {
			t.Errorf("Unquote(%q) = %q, %d, %d, want place %d, %d", c.s, got, at, e, c.at, c.e)
		}
	}
}

func TestP1_5UnquoteOfEveryByteEscape(t *testing.T) {
	for b := range 256 {
		digits := strconv.FormatInt(int64(b)+0x100, 16)[1:]
		for _, form := range []string{digits, strings.ToUpper(digits)} {
			if got, at, e := text.Unquote(`"\x` + form + `"`); got != string([]byte{byte(b)}) || at != 0 || e != api.OK {
				t.Errorf("Unquote of \\x%s = %q, %d, %d", form, got, at, e)
			}
		}
	}
}

// Each byte behind a backslash, and in each place of a digit: only those that the chapter names may stand there.
func TestP1_5UnquoteOfEveryByteInAnEscape(t *testing.T) {
	for b := range 256 {
		at := string([]byte{byte(b)})
		if _, _, e := text.Unquote(`"\` + at + `"`); (e == api.OK) != strings.Contains(`"\nrt`, at) {
			t.Errorf("behind a backslash the byte %#x: %d", b, e)
		}
		digit := strings.Contains("0123456789abcdefABCDEF", at)
		for _, s := range []string{`"\x` + at + `0"`, `"\x0` + at + `"`, `"\u{` + at + `}"`, `"\u{0` + at + `}"`} {
			if b == '}' && strings.HasPrefix(s, `"\u{0`) {
				continue
			}
			if _, _, e := text.Unquote(s); (e == api.OK) != digit || !digit && e != api.ErrEscape {
				t.Errorf("Unquote(%q): %d", s, e)
			}
		}
	}
}
