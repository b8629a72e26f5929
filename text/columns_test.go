package text_test

import (
	"math"
	"slices"
	"strings"
	"testing"

	"shard/api"
	"shard/text"
)

func TestP1_11WidthOfTexts(t *testing.T) {
	for _, c := range []struct {
		s    string
		want int
	}{
		{"", 0}, {"abc", 3}, {"e\u0301日", 3}, {"\xff\xe6\x97", 3}, {"\n\t\u00ad\u3000", 0}, {"！", 2}, {"😀a", 3}, {"\uFFFD", 1}, {"é", 1}, {" ", 1}, {strings.Repeat("日", 100000), 200000},
	} {
		if got := text.Width(c.s); got != c.want {
			t.Errorf("Width(%q) = %d, want %d", c.s, got, c.want)
		}
	}
}

func TestP1_11WidthOfEveryRuneAndByte(t *testing.T) {
	for r := int32(0); r <= 0x10FFFF; r++ {
		if s, e := text.Encode(r); e == api.OK && text.Width(s) != docWidth(r) {
			t.Errorf("Width of U+%04X = %d, want %d", r, text.Width(s), docWidth(r))
		}
	}
	for b := 0x80; b <= 0xFF; b++ {
		if got := text.Width(string([]byte{byte(b)})); got != 1 {
			t.Errorf("Width of the byte %#x = %d, want 1", b, got)
		}
	}
}

func TestP1_12ClipOfTexts(t *testing.T) {
	for _, c := range []struct {
		s    string
		cols int
		want string
	}{
		{"日本", 3, "日"}, {"日本", 4, "日本"}, {"日本", 1, ""}, {"日a", 1, ""}, {"e\u0301x", 1, "e\u0301"}, {"e\u0301\u00ad\nx", 1, "e\u0301\u00ad\n"}, {"abc", 0, ""}, {"abc", -1, ""}, {"\u0301abc", 0, "\u0301"}, {"\u0301abc", -1, ""}, {"\u0301", math.MinInt, ""}, {"a\xffb", 2, "a\xff"}, {"\xe6\x97", 1, "\xe6"}, {"abc", math.MaxInt, "abc"}, {"", 5, ""}, {"", 0, ""},
	} {
		if got := text.Clip(c.s, c.cols); got != c.want {
			t.Errorf("Clip(%q, %d) = %q, want %q", c.s, c.cols, got, c.want)
		}
	}
}

func TestP1_12ClipIsTheLongestPrefix(t *testing.T) {
	for i, s := range oddStrings(3000, 10) {
		cols := i%12 - 1
		want := ""
		pieces := text.Pieces(s)
		for _, p := range pieces {
			if end := p.At + p.Size; cols >= 0 && text.Width(s[:end]) <= cols {
				want = s[:end]
			}
		}
		if got := text.Clip(s, cols); got != want {
			t.Fatalf("Clip(%q, %d) = %q, want %q", s, cols, got, want)
		}
	}
}

func TestP1_13PadOfTexts(t *testing.T) {
	for _, c := range []struct {
		s          string
		cols, side int
		want       string
		e          api.Errno
	}{
		{"ab", 5, 2, " ab  ", 0}, {"ab", 6, 2, "  ab  ", 0}, {"ab", 3, 2, "ab ", 0}, {"ab", 5, 0, "ab   ", 0}, {"ab", 5, 1, "   ab", 0}, {"日", 5, 1, "   日", 0}, {"日", 5, 2, " 日  ", 0}, {"e\u0301", 3, 0, "e\u0301  ", 0}, {"\xff\n", 2, 0, "\xff\n ", 0}, {"", 2, 1, "  ", 0}, {"", 0, 0, "", 0},
		{"abc", 3, 1, "abc", 0}, {"abc", 2, 0, "abc", 0}, {"abc", 2, 1, "abc", 0}, {"abc", 0, 2, "abc", 0}, {"日本", 3, 0, "日本", 0},
		{"", api.MaxCols, 0, strings.Repeat(" ", api.MaxCols), 0}, {"a", api.MaxCols, 2, strings.Repeat(" ", 199) + "a" + strings.Repeat(" ", 200), 0}, {strings.Repeat("a", 500), api.MaxCols, 1, strings.Repeat("a", 500), 0},
		{"", api.MaxCols + 1, 0, "", api.ErrArg}, {strings.Repeat("a", 500), api.MaxCols + 1, 0, "", api.ErrArg}, {"abc", -1, 0, "", api.ErrArg}, {"abc", 3, -1, "", api.ErrArg}, {"abc", 3, 3, "", api.ErrArg}, {"", math.MaxInt, math.MaxInt, "", api.ErrArg}, {"", math.MinInt, math.MinInt, "", api.ErrArg},
	} {
		if got, e := text.Pad(c.s, c.cols, c.side); got != c.want || e != c.e {
			t.Errorf("Pad(%.20q, %d, %d) = %q, %d, want %q, %d", c.s, c.cols, c.side, got, e, c.want, c.e)
		}
	}
}

func TestP1_14TableOfRows(t *testing.T) {
	for _, c := range []struct {
		rows [][]string
		want []string
	}{
		{nil, nil}, {[][]string{}, nil}, {[][]string{nil}, []string{""}}, {[][]string{{}, {""}}, []string{"", ""}},
		{[][]string{{"a", "bb"}, {"ccc"}, {"d", "e", "f"}}, []string{"a    bb", "ccc", "d    e   f"}},
		{[][]string{{}, {"日", ""}, {"abc", "x"}}, []string{"", "日   ", "abc  x"}},
		{[][]string{{"", ""}, {"", "", ""}}, []string{"  ", "    "}},
		{[][]string{{"longest"}, {"a", "b"}}, []string{"longest", "a        b"}},
		{[][]string{{"e\u0301", "x"}, {"日", "y"}}, []string{"e\u0301   x", "日  y"}},
		{[][]string{{" a ", "\uFFFD"}, {"b", "c ", "d"}}, []string{" a   \uFFFD", "b    c   d"}},
	} {
		if got, at, e := text.Table(c.rows); !slices.Equal(got, c.want) || at != 0 || e != api.OK {
			t.Errorf("Table(%q) = %q, %d, %d, want %q", c.rows, got, at, e, c.want)
		}
	}
}

func TestP1_14TableOfFaults(t *testing.T) {
	many := func(n int) []string { return make([]string, n) }
	long := strings.Repeat("a", api.MaxCols+1)
	for _, c := range []struct {
		rows [][]string
		at   int
		e    api.Errno
	}{
		{make([][]string, api.MaxRows+1), 0, api.ErrWords}, {append(slices.Repeat([][]string{{"\xff"}}, api.MaxRows), nil), 0, api.ErrWords},
		{[][]string{many(api.MaxCells + 1)}, 0, api.ErrWords}, {[][]string{{"a"}, many(api.MaxCells + 1)}, 1, api.ErrWords}, {[][]string{{"a"}, append(many(api.MaxCells), "\xff"), {"\n"}}, 1, api.ErrWords}, {[][]string{{"\n"}, many(api.MaxCells + 1)}, 0, api.ErrWord},
		{[][]string{{"a\n"}, {"\xff"}}, 0, api.ErrWord}, {[][]string{{"a"}, {"b", "\n\xff"}}, 1, api.ErrBroken}, {[][]string{{"\n", "\xff"}}, 0, api.ErrWord}, {[][]string{{long, "\xff"}}, 0, api.ErrLong}, {[][]string{{"a"}, {"\u3000"}}, 1, api.ErrWord}, {[][]string{{"\t"}}, 0, api.ErrWord},
		{[][]string{{"a"}, {}, {"b", long}}, 2, api.ErrLong}, {[][]string{{strings.Repeat("日", api.MaxCols/2+1)}}, 0, api.ErrLong}, {[][]string{{long + "\n"}}, 0, api.ErrWord}, {[][]string{{long + "\xff"}}, 0, api.ErrBroken}, {[][]string{{long + "\n\xff"}}, 0, api.ErrBroken},
	} {
		if got, at, e := text.Table(c.rows); len(got) != 0 || at != c.at || e != c.e {
			t.Errorf("Table(%.60q) = %q, %d, %d, want place %d, %d", c.rows, got, at, e, c.at, c.e)
		}
	}
}

func TestP1_14TableAtTheLimits(t *testing.T) {
	rows := make([][]string, api.MaxRows)
	for i := range rows {
		rows[i] = make([]string, api.MaxCells)
	}
	rows[api.MaxRows-1][0] = strings.Repeat("日", api.MaxCols/2)
	rows[0][api.MaxCells-1] = strings.Repeat("e\u0301", api.MaxCols)
	got, at, e := text.Table(rows)
	if len(got) != api.MaxRows || at != 0 || e != api.OK {
		t.Fatalf("Table at its limits = %d lines, %d, %d", len(got), at, e)
	}
	gaps := 2 * (api.MaxCells - 1)
	if want := strings.Repeat(" ", api.MaxCols+gaps) + rows[0][api.MaxCells-1]; got[0] != want {
		t.Errorf("its first line = %q, want %q", got[0], want)
	}
	if want := rows[api.MaxRows-1][0] + strings.Repeat(" ", gaps); got[api.MaxRows-1] != want {
		t.Errorf("its last line = %q, want %q", got[api.MaxRows-1], want)
	}
}
