package text_test

import (
	"strings"
	"testing"

	"shard/api"
	"shard/text"
)

func TestP1_10NameOfNames(t *testing.T) {
	for _, c := range []struct{ s, want string }{
		{"a", "a"}, {"Z", "z"}, {"Straße-2", "straße-2"}, {"ΛΟΓΟΣ", "λογοσ"}, {"ς", "σ"}, {"σς", "σσ"}, {"Щука_7.x", "щука_7.x"}, {"a-_.0129", "a-_.0129"}, {"Àÿß", "àÿß"},
		{strings.Repeat("A", api.MaxName), strings.Repeat("a", api.MaxName)}, {strings.Repeat("É", api.MaxName), strings.Repeat("é", api.MaxName)}, {"a" + strings.Repeat("-", api.MaxName-1), "a" + strings.Repeat("-", api.MaxName-1)},
	} {
		if got, at, e := text.Name(c.s); got != c.want || at != 0 || e != api.OK {
			t.Errorf("Name(%q) = %q, %d, %d, want %q", c.s, got, at, e, c.want)
		}
	}
}

func TestP1_10NameOfFaults(t *testing.T) {
	for _, c := range []struct {
		s  string
		at int
		e  api.Errno
	}{
		{"", 0, api.ErrName}, {"7a", 0, api.ErrName}, {"-a", 0, api.ErrName}, {"_", 0, api.ErrName}, {".", 0, api.ErrName}, {"日", 0, api.ErrName}, {" a", 0, api.ErrName}, {"\uFFFD", 0, api.ErrName},
		{"a b", 1, api.ErrName}, {"a×", 1, api.ErrName}, {"a÷", 1, api.ErrName}, {"λόγος", 2, api.ErrName}, {"a\u0301", 1, api.ErrName}, {"Ё", 0, api.ErrName}, {"a,", 1, api.ErrName}, {"a/", 1, api.ErrName}, {"a:", 1, api.ErrName}, {"é\uFFFD", 2, api.ErrName}, {"a\x00", 1, api.ErrName},
		{"\xff", 0, api.ErrBroken}, {"a\xff", 1, api.ErrBroken}, {"é\xc3", 2, api.ErrBroken}, {"7\xff", 0, api.ErrName}, {"a\xff ", 1, api.ErrBroken}, {"\xc3a", 0, api.ErrBroken},
		{strings.Repeat("a", api.MaxName+1), api.MaxName, api.ErrName}, {strings.Repeat("é", api.MaxName+1), 2 * api.MaxName, api.ErrName}, {strings.Repeat("é", api.MaxName) + " ", 2 * api.MaxName, api.ErrName}, {strings.Repeat("é", api.MaxName) + "\xff", 2 * api.MaxName, api.ErrBroken}, {strings.Repeat("a", api.MaxName+1) + "\xff", api.MaxName, api.ErrName}, {strings.Repeat("a", 23) + "日a", 23, api.ErrName},
	} {
		if got, at, e := text.Name(c.s); got != "" || at != c.at || e != c.e {
			t.Errorf("Name(%q) = %q, %d, %d, want place %d, %d", c.s, got, at, e, c.at, c.e)
		}
	}
}

func TestP1_10NameOfEveryRune(t *testing.T) {
	for r := int32(0); r <= 0x10FFFF; r++ {
		s, e := text.Encode(r)
		if e != api.OK {
			continue
		}
		folded, _ := text.Encode(docFold(r))
		letter := in(r, docLetter)
		later := letter || '0' <= r && r <= '9' || r == '-' || r == '_' || r == '.'
		for _, c := range []struct {
			head string
			may  bool
		}{{"", letter}, {"é", later}} {
			want, wantAt, wantE := c.head+folded, 0, api.OK
			if !c.may {
				want, wantAt, wantE = "", len(c.head), api.ErrName
			}
			if got, at, e := text.Name(c.head + s); got != want || at != wantAt || e != wantE {
				t.Fatalf("Name(%q) = %q, %d, %d, want %q, %d, %d", c.head+s, got, at, e, want, wantAt, wantE)
			}
		}
		if letter {
			if again, _, e := text.Name(folded); again != folded || e != api.OK || len(folded) != len(s) {
				t.Errorf("Name(%q) = %q, %d, want the same name", folded, again, e)
			}
		}
	}
}
