package text_test

import (
	"slices"
	"strings"
	"testing"

	"shard/api"
	"shard/text"
)

// bare gives the words of a line that has no quotation marks, escapes or remarks.
func bare(line string) []api.Word {
	var out []api.Word
	at := 0
	for _, w := range strings.Split(line, " ") {
		if w != "" {
			out = append(out, api.Word{Text: w, At: at})
		}
		at += len(w) + 1
	}
	return out
}

func TestP1_6WordsOfLines(t *testing.T) {
	for _, c := range []struct {
		line string
		want []api.Word
	}{
		{"", nil}, {" ", nil}, {" \t\t ", nil}, {"#", nil}, {" # \xff\" \\", nil}, {"##", nil},
		{`set 0x2a "two words" # why`, []api.Word{{Text: "set"}, {Text: "0x2a", At: 4}, {Text: "two words", Quoted: true, At: 9}}},
		{"\ta#b\t\"\"\t", []api.Word{{Text: "a#b", At: 1}, {Quoted: true, At: 5}}},
		{"a##", []api.Word{{Text: "a##"}}},
		{`"#" b`, []api.Word{{Text: "#", Quoted: true}, {Text: "b", At: 4}}},
		{"日本  x", []api.Word{{Text: "日本"}, {Text: "x", At: 8}}},
		{"e\u0301 \uFFFD", []api.Word{{Text: "e\u0301"}, {Text: "\uFFFD", At: 4}}},
		{`"\x41\n" "\u{0}"`, []api.Word{{Text: "A\n", Quoted: true}, {Text: "\x00", Quoted: true, At: 9}}},
		{"\"a\"\t\"b\"", []api.Word{{Text: "a", Quoted: true}, {Text: "b", Quoted: true, At: 4}}},
		{`"a" #"`, []api.Word{{Text: "a", Quoted: true}}},
		{"' x=", []api.Word{{Text: "'"}, {Text: "x=", At: 2}}},
	} {
		if got, at, e := text.Words(c.line); !slices.Equal(got, c.want) || at != 0 || e != api.OK {
			t.Errorf("Words(%q) = %v, %d, %d, want %v", c.line, got, at, e, c.want)
		}
	}
}

func TestP1_6WordsOfFaults(t *testing.T) {
	for _, c := range []struct {
		line string
		at   int
		e    api.Errno
	}{
		{`a"b`, 1, api.ErrWord}, {`a"`, 1, api.ErrWord}, {`a\b`, 1, api.ErrWord}, {`\`, 0, api.ErrWord}, {"ab\u3000c", 2, api.ErrWord}, {"a\nb", 1, api.ErrWord}, {"\n", 0, api.ErrWord}, {"\u00a0", 0, api.ErrWord}, {"a \x7f", 2, api.ErrWord}, {"x a#\\", 4, api.ErrWord},
		{"a \xffb", 2, api.ErrBroken}, {"é\x80", 2, api.ErrBroken}, {"a\xe6\x97 b", 1, api.ErrBroken}, {"a\xff\\", 1, api.ErrBroken}, {"a\\\xff", 1, api.ErrWord},
		{`"a"b`, 3, api.ErrQuote}, {`"a""b"`, 3, api.ErrQuote}, {`"a"#`, 3, api.ErrQuote}, {`x "a"` + "\xff", 5, api.ErrQuote}, {"\"\"\n", 2, api.ErrQuote}, {`""\`, 2, api.ErrQuote},
		{`"`, 1, api.ErrQuote}, {`x "ab`, 5, api.ErrQuote}, {`x "ab #`, 7, api.ErrQuote}, {`x "\"`, 5, api.ErrQuote},
		{`x "\q"`, 3, api.ErrEscape}, {`x "a\`, 4, api.ErrEscape}, {"x \"a\tb\"", 4, api.ErrEscape}, {`"a" "\u{d800}"`, 5, api.ErrEscape}, {"x \"a\xff\"", 4, api.ErrBroken},
	} {
		if got, at, e := text.Words(c.line); len(got) != 0 || at != c.at || e != c.e {
			t.Errorf("Words(%q) = %v, %d, %d, want place %d, %d", c.line, got, at, e, c.at, c.e)
		}
	}
}

func TestP1_6WordsAtTheLimits(t *testing.T) {
	full := strings.Repeat("a ", api.MaxWords)
	for _, c := range []struct {
		line  string
		count int
		at    int
		e     api.Errno
	}{
		{full, api.MaxWords, 0, api.OK}, {full + " \t", api.MaxWords, 0, api.OK}, {full + "#b", api.MaxWords, 0, api.OK}, {full + "# \xff", api.MaxWords, 0, api.OK}, {full[:126], api.MaxWords - 1, 0, api.OK},
		{full + "b", 0, 128, api.ErrWords}, {full + "  b", 0, 130, api.ErrWords}, {full + "\xff", 0, 128, api.ErrWords}, {full + "\"", 0, 128, api.ErrWords}, {full + "\\", 0, 128, api.ErrWords}, {full + "\n", 0, 128, api.ErrWords},
		{"\xff " + full, 0, 0, api.ErrBroken}, {strings.Repeat(`"" `, api.MaxWords) + `""`, 0, 192, api.ErrWords},
		{strings.Repeat(" ", api.MaxLine), 0, 0, api.OK}, {strings.Repeat("a", api.MaxLine), 1, 0, api.OK}, {"#" + strings.Repeat("\xff", api.MaxLine-1), 0, 0, api.OK}, {`"` + strings.Repeat("b", api.MaxLine-2) + `"`, 1, 0, api.OK}, {strings.Repeat("é", api.MaxLine/2), 1, 0, api.OK},
		{strings.Repeat(" ", api.MaxLine+1), 0, api.MaxLine, api.ErrLong}, {strings.Repeat("a", api.MaxLine+1), 0, api.MaxLine, api.ErrLong}, {"#" + strings.Repeat("a", api.MaxLine), 0, api.MaxLine, api.ErrLong}, {strings.Repeat("\xff", api.MaxLine+1), 0, api.MaxLine, api.ErrLong}, {strings.Repeat("a ", api.MaxLine), 0, api.MaxLine, api.ErrLong}, {strings.Repeat("日", api.MaxLine/3+1), 0, api.MaxLine, api.ErrLong},
		{strings.Repeat(" ", api.MaxLine-1) + "\xff", 0, api.MaxLine - 1, api.ErrBroken}, {`"` + strings.Repeat("b", api.MaxLine-1), 0, api.MaxLine, api.ErrQuote},
	} {
		if got, at, e := text.Words(c.line); len(got) != c.count || at != c.at || e != c.e {
			t.Errorf("Words(%.40q.., %d bytes) = %d words, %d, %d, want %d, %d, %d", c.line, len(c.line), len(got), at, e, c.count, c.at, c.e)
		}
	}
	if got, _, _ := text.Words(full); !slices.Equal(got, bare(full)) {
		t.Errorf("Words of %d words = %v", api.MaxWords, got)
	}
}

// Every rune, inside of a bare word: it ends the word, is barred, or belongs to it.
func TestP1_6WordsOfEveryRune(t *testing.T) {
	for r := int32(0); r <= 0x10FFFF; r++ {
		s, e := text.Encode(r)
		if e != api.OK {
			continue
		}
		line := "a" + s + "b"
		want, wantAt, wantE := []api.Word{{Text: line}}, 0, api.OK
		switch {
		case r == ' ' || r == '\t':
			want = []api.Word{{Text: "a"}, {Text: "b", At: 2}}
		case r == '"' || r == '\\' || docIsHidden(r):
			want, wantAt, wantE = nil, 1, api.ErrWord
		}
		if got, at, e := text.Words(line); !slices.Equal(got, want) || at != wantAt || e != wantE {
			t.Fatalf("Words(%q) = %v, %d, %d, want %v, %d, %d", line, got, at, e, want, wantAt, wantE)
		}
	}
}

// A quoted word is read as by Unquote: with its value, or its fault further on by the word's place.
func TestP1_6QuotedWordsAreReadAsByUnquote(t *testing.T) {
	for _, s := range oddStrings(5000, 10) {
		for _, q := range []string{text.Quote(s), `"` + s} {
			value, at, e := text.Unquote(q)
			got, gotAt, gotE := text.Words("é " + q)
			switch {
			case e == api.OK:
				want := []api.Word{{Text: "é"}, {Text: value, Quoted: true, At: 3}}
				if !slices.Equal(got, want) || gotAt != 0 || gotE != api.OK {
					t.Fatalf("Words(é %q) = %v, %d, %d, want %v", q, got, gotAt, gotE, want)
				}
			case e == api.ErrQuote && at < len(q) && (q[at] == ' ' || q[at] == '\t'):
				// A blank behind the closing mark, which Unquote bars and a line does not.
			case len(got) != 0 || gotAt != at+3 || gotE != e:
				t.Fatalf("Words(é %q) = %v, %d, %d, want place %d, %d", q, got, gotAt, gotE, at+3, e)
			}
		}
	}
}

func TestP1_7JoinOfWords(t *testing.T) {
	for _, c := range []struct {
		words []api.Word
		want  string
	}{
		{nil, ""}, {[]api.Word{}, ""},
		{[]api.Word{{Text: "a"}}, "a"},
		{[]api.Word{{Text: "set"}, {Text: "a b", Quoted: true}, {Text: "7#"}}, `set "a b" 7#`},
		{[]api.Word{{Quoted: true, At: -5}, {Text: "x", At: 1 << 40}}, `"" x`},
		{[]api.Word{{Text: "#\xff\n", Quoted: true}}, `"#\xff\n"`},
		{[]api.Word{{Text: "a", Quoted: true}, {Text: "日"}}, `"a" 日`},
	} {
		if got, at, e := text.Join(c.words); got != c.want || at != 0 || e != api.OK {
			t.Errorf("Join(%v) = %q, %d, %d, want %q", c.words, got, at, e, c.want)
		}
	}
}

func TestP1_7JoinOfFaults(t *testing.T) {
	long := strings.Repeat("a", api.MaxLine+1)
	for _, c := range []struct {
		words []api.Word
		at    int
		e     api.Errno
	}{
		{[]api.Word{{Text: "a"}, {}}, 1, api.ErrWord}, {[]api.Word{{Text: "#"}}, 0, api.ErrWord}, {[]api.Word{{Text: "a"}, {Text: "b"}, {Text: "c d"}, {}}, 2, api.ErrWord}, {[]api.Word{{Text: " "}}, 0, api.ErrWord}, {[]api.Word{{Text: "a "}}, 0, api.ErrWord}, {[]api.Word{{Text: "\ta"}}, 0, api.ErrWord}, {[]api.Word{{Text: "a\tb"}}, 0, api.ErrWord},
		{[]api.Word{{Text: "\xff"}}, 0, api.ErrWord}, {[]api.Word{{Text: `a"b`}}, 0, api.ErrWord}, {[]api.Word{{Text: `"a"`}}, 0, api.ErrWord}, {[]api.Word{{Text: `\`}}, 0, api.ErrWord}, {[]api.Word{{Text: "a\n"}}, 0, api.ErrWord}, {[]api.Word{{Text: "\u3000"}}, 0, api.ErrWord}, {[]api.Word{{Quoted: true}, {Text: "a b\xff"}}, 1, api.ErrWord},
		{make([]api.Word, api.MaxWords+1), 0, api.ErrWords}, {make([]api.Word, api.MaxWords), 0, api.ErrWord},
		{[]api.Word{{Text: long}}, api.MaxLine, api.ErrLong}, {[]api.Word{{Text: long}, {Text: "#"}}, 1, api.ErrWord}, {[]api.Word{{Text: long, Quoted: true}, {Text: long}}, api.MaxLine, api.ErrLong},
	} {
		if got, at, e := text.Join(c.words); got != "" || at != c.at || e != c.e {
			t.Errorf("Join(%.60v) = %.60q, %d, %d, want place %d, %d", c.words, got, at, e, c.at, c.e)
		}
	}
}

func TestP1_7JoinAtTheLimits(t *testing.T) {
	bareWord := func(n int) api.Word { return api.Word{Text: strings.Repeat("a", n)} }
	quoted := func(n int) api.Word { return api.Word{Text: strings.Repeat("a", n), Quoted: true} }
	for _, c := range []struct {
		words []api.Word
		e     api.Errno
	}{
		{[]api.Word{bareWord(api.MaxLine)}, api.OK}, {[]api.Word{bareWord(api.MaxLine + 1)}, api.ErrLong},
		{[]api.Word{quoted(api.MaxLine - 2)}, api.OK}, {[]api.Word{quoted(api.MaxLine - 1)}, api.ErrLong},
		{[]api.Word{bareWord(api.MaxLine - 2), bareWord(1)}, api.OK}, {[]api.Word{bareWord(api.MaxLine - 1), bareWord(1)}, api.ErrLong},
		{[]api.Word{{Text: strings.Repeat("\xff", api.MaxLine/4), Quoted: true}}, api.ErrLong}, {[]api.Word{{Text: strings.Repeat("\xff", api.MaxLine/4-1), Quoted: true}}, api.OK},
		{slices.Repeat([]api.Word{bareWord(63)}, api.MaxWords), api.OK}, {append(slices.Repeat([]api.Word{bareWord(63)}, api.MaxWords-1), bareWord(65)), api.ErrLong}, {slices.Repeat([]api.Word{bareWord(63)}, api.MaxWords+1), api.ErrWords},
	} {
		got, at, e := text.Join(c.words)
		wantAt := 0
		if c.e == api.ErrLong {
			wantAt = api.MaxLine
		}
		if at != wantAt || e != c.e || (got == "") != (c.e != api.OK) {
			t.Errorf("Join of %d words: %d bytes, %d, %d, want %d", len(c.words), len(got), at, e, c.e)
		}
	}
}

func TestP1_7WordsOfJoinAreTheWords(t *testing.T) {
	texts := oddStrings(6000, 5)
	joined := 0
	for i := 0; i+3 <= len(texts); i += 3 {
		words := []api.Word{{Text: texts[i], At: 9}, {Text: texts[i+1], Quoted: true}, {Text: texts[i+2], Quoted: i%2 == 0}}
		line, _, e := text.Join(words)
		if e != api.OK {
			continue
		}
		joined++
		got, at, e := text.Words(line)
		for j := range got {
			got[j].At = words[min(j, 2)].At
		}
		if !slices.Equal(got, words) || at != 0 || e != api.OK {
			t.Fatalf("Words(Join(%v)) = %v, %d, %d", words, got, at, e)
		}
	}
	if joined < 50 {
		t.Errorf("only %d lists of words were joined", joined)
	}
}

// What Join bars as a bare word is just what Words would not read as that one word.
func TestP1_7JoinBarsWhatIsNoBareWord(t *testing.T) {
	for _, s := range oddStrings(5000, 4) {
		words, _, e := text.Words(s)
		isWord := e == api.OK && slices.Equal(words, []api.Word{{Text: s}})
		_, _, e = text.Join([]api.Word{{Text: s}})
		if isWord != (e == api.OK) || !isWord && e != api.ErrWord {
			t.Fatalf("Join of the bare word %q: %d", s, e)
		}
	}
}
