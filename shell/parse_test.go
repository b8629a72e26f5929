package shell_test

import (
	"fmt"
	"strings"
	"testing"

	"shard/api"
	"shard/shell"
	"shard/text"
)

func TestP18_1Steps(t *testing.T) {
	for _, c := range []struct {
		line string
		step api.Step
	}{
		{"c0 get 5", api.Step{Kind: api.SBegin, A: 16, Req: api.Request{Kind: api.KGet, Key: 5}}},
		{"h3 get 0", api.Step{Kind: api.SBegin, A: 3, Req: api.Request{Kind: api.KGet}}},
		{"c15 set 18446744073709551615 v", api.Step{Kind: api.SBegin, A: 31, Req: api.Request{Kind: api.KSet, Key: top, Value: []byte("v")}}},
		{`c1 set 0xA "a b"`, api.Step{Kind: api.SBegin, A: 17, Req: api.Request{Kind: api.KSet, Key: 10, Value: []byte("a b")}}},
		{`c1 set 1 ""`, api.Step{Kind: api.SBegin, A: 17, Req: api.Request{Kind: api.KSet, Key: 1}}},
		{`c1 set 1 "\x00\xff\u{e9}\n"`, api.Step{Kind: api.SBegin, A: 17, Req: api.Request{Kind: api.KSet, Key: 1, Value: []byte("\x00\xff\u00e9\n")}}},
		{"c1 set 1 none", api.Step{Kind: api.SBegin, A: 17, Req: api.Request{Kind: api.KSet, Key: 1, Value: []byte("none")}}},
		{"admin delete 7", api.Step{Kind: api.SBegin, A: 32, Req: api.Request{Kind: api.KDelete, Key: 7}}},
		{"c0 cas 5 none x", api.Step{Kind: api.SBegin, A: 16, Req: api.Request{Kind: api.KCas, Key: 5, Value: []byte("x")}}},
		{"c0 cas 5 none none", api.Step{Kind: api.SBegin, A: 16, Req: api.Request{Kind: api.KCas, Key: 5, Value: []byte("none")}}},
		{`c0 cas 5 "none" x`, api.Step{Kind: api.SBegin, A: 16, Req: api.Request{Kind: api.KCas, Key: 5, Has: true, Old: []byte("none"), Value: []byte("x")}}},
		{"c0 cas 5 None x", api.Step{Kind: api.SBegin, A: 16, Req: api.Request{Kind: api.KCas, Key: 5, Has: true, Old: []byte("None"), Value: []byte("x")}}},
		{`c0 cas 5 "" ""`, api.Step{Kind: api.SBegin, A: 16, Req: api.Request{Kind: api.KCas, Key: 5, Has: true}}},
		{"@200 scan 9 0xff 255", api.Step{Kind: api.SBegin, A: 200, Req: api.Request{Kind: api.KScan, Key: 9, Hi: 255, Limit: 255}}},
		{"c0 scan 9 1 0", api.Step{Kind: api.SBegin, A: 16, Req: api.Request{Kind: api.KScan, Key: 9, Hi: 1}}},
		{"c0 at h1 get 5", api.Step{Kind: api.SBegin, A: 16, On: true, B: 1, Req: api.Request{Kind: api.KGet, Key: 5}}},
		{"c0 at h0 set 5 v", api.Step{Kind: api.SBegin, A: 16, On: true, Req: api.Request{Kind: api.KSet, Key: 5, Value: []byte("v")}}},
		{"c0 at c1 delete 5", api.Step{Kind: api.SBegin, A: 16, On: true, B: 17, Req: api.Request{Kind: api.KDelete, Key: 5}}},
		{"c0 at @255 cas 5 none v", api.Step{Kind: api.SBegin, A: 16, On: true, B: 255, Req: api.Request{Kind: api.KCas, Key: 5, Value: []byte("v")}}},
		{"c0 at h1 cas 5 a v", api.Step{Kind: api.SBegin, A: 16, On: true, B: 1, Req: api.Request{Kind: api.KCas, Key: 5, Has: true, Old: []byte("a"), Value: []byte("v")}}},
		{"c0 at h1 scan 1 2 3", api.Step{Kind: api.SBegin, A: 16, On: true, B: 1, Req: api.Request{Kind: api.KScan, Key: 1, Hi: 2, Limit: 3}}},
		{"c2 quit", api.Step{Kind: api.SGiveUp, A: 18}},
		{"shard h0 h1 1 2 3 4", api.Step{Kind: api.SShard, A: 0, B: 1, Lo: 1, Hi: 2, N: 3, M: 4}},
		{"shard c1 @254 0xffffffffffffffff 0 2147483647 0x7fffffff", api.Step{Kind: api.SShard, A: 17, B: 254, Lo: top, N: 2147483647, M: 2147483647}},
		{"deliver 2147483647", api.Step{Kind: api.SDeliver, N: 2147483647}},
		{"copy 3", api.Step{Kind: api.SDeliver, N: 3, On: true}},
		{"drop 0x10", api.Step{Kind: api.SDrop, N: 16}},
		{"inject @33 h1 xyz", api.Step{Kind: api.SInject, A: 33, B: 1, Data: []byte("xyz")}},
		{"tick c0", api.Step{Kind: api.STick, A: 16}},
		{"sync h5", api.Step{Kind: api.SSync, A: 5}},
		{"compact h6", api.Step{Kind: api.SCompact, A: 6}},
		{"restart h7", api.Step{Kind: api.SRestart, A: 7}},
		{"crash h8 9", api.Step{Kind: api.SCrash, A: 8, N: 9}},
		{"block h1 c0", api.Step{Kind: api.SBlock, A: 1, B: 16, On: true}},
		{"heal h1 admin", api.Step{Kind: api.SBlock, A: 1, B: 32}},
		{"clear", api.Step{Kind: api.SClear}},
		{"settle 3 18446744073709551615", api.Step{Kind: api.SSettle, N: 3, Lo: top}},
		{"plan 4", api.Step{Kind: api.SPlan, N: 4}},
	} {
		for _, s := range []string{head + c.line, head + c.line + "\n", "\n#\n" + head + "\t " + strings.ReplaceAll(c.line, " ", "\t ") + " # why\n\n"} {
			if strings.Contains(c.line, "a b") {
				s = head + c.line
			}
			isSame(t, c.line, parses(t, s), scriptOf(c.step))
		}
		// The same line in the midst of others.
		s := parses(t, head+"deliver 0\nask net\n"+c.line+"\nask log\ndrop 1\n")
		isSame(t, c.line, s, asking([]api.Step{{Kind: api.SDeliver}, c.step, {Kind: api.SDrop, N: 1}}, api.Ask{At: 1, What: api.AskNet}, api.Ask{At: 2, What: api.AskLog}))
	}
}

func TestP18_1Asks(t *testing.T) {
	for i, word := range docQuestions {
		line, want := "ask "+word, api.Ask{What: api.AskKind(i + 1)}
		if i < 8 {
			isFault(t, head+line+" h0", 2, api.ErrUsage)
		} else {
			isFault(t, head+line, 2, api.ErrUsage)
			isFault(t, head+line+" h0 h1", 2, api.ErrUsage)
			isFault(t, head+line+" nobody", 2, api.ErrUsage)
			isFault(t, head+line+` "h0"`, 2, api.ErrUsage)
			line, want.A = line+" @77", 77
		}
		isSame(t, line, parses(t, head+line), asking(nil, want))
		want.At = 2
		isSame(t, line, parses(t, head+"clear\nclear\n"+line+"\n"+line), asking(clears(2), want, want))
	}
	for _, line := range []string{"ask", "ask what", "ask \"net\"", "ask \"table\" h0", "ask Net", "ask none", "ask what h0 h1", "ask h0", "ask \"\"", "ask ask"} {
		isFault(t, head+line, 2, api.ErrCommand)
	}
}

// Each text's fault stands in its last line.
func TestP18_1Commands(t *testing.T) {
	for _, lines := range []string{
		`"clear"`, `"c0" get 5`, `""`, `"" get 5`, "get 1", "put 1 2", "Clear", "CLEAR", "x", "x get 5", "5 get 5", "cluster", "none", "at h0 get 5", "quit c0", "net", "clea", "clears",
		"h16 get 5", "h00 get 5", "h007 quit", "h quit", "H0 quit", "C0 get 5", "c16 get 1", "c get 5", "c-1 get 5", "h0x1 quit", "c0x0 quit", "ADMIN quit", "Admin quit", "@ quit", "@256 quit", "@00 quit", "@0x1 quit", "@-1 quit", "@h0 quit", "@255@ quit", "h0h0 quit", "host0 quit", "ch0 quit",
		"c0", "h0", "admin", "@5", "c0 put 1 2", "c0 5", "c0 c0", `c0 "get" 5`, `c0 "quit"`, `c0 "at" h1 get 5`, "c0 Get 5", "c0 shard", "c0 none", "c0 ask", `c0 ""`,
		"name a c0\nb get 5", "name a c0\na", "name a c0\na put 5", "name a c0\n\"a\" get 5", "name a c0\n a \"get\" 5",
		"a get 5\nname a c0",
		"name tick c0\nTick", "name ask c0\nask get 5", "name plan c0\nPlan five 5",
	} {
		at := 2 + strings.Count(lines, "\n")
		if strings.HasPrefix(lines, "a get") {
			at = 2
		}
		isFault(t, head+lines, at, api.ErrCommand)
		isFault(t, head+lines+"\nclear\n", at, api.ErrCommand)
	}
	isFault(t, head+head, 2, api.ErrCommand)
}

// Every form of line is refused with a word too few, too many, in quotes where none may be, or of another sort.
func TestP18_1Usage(t *testing.T) {
	wrong := map[string][]string{
		"ADDR":   {"h16", "c16", "@256", "h01", "nobody", "5", "none", "H1", "Admin", `"h0"`, `""`, "h", "@", "@-1", "@0x1", "h+1"},
		"KEY":    {"-1", "01", "x", "0x", "0xg", "18446744073709551616", "0x10000000000000000", `"5"`, `""`, "h0", "1.0", "+1", "1_0"},
		"NUMBER": {"-1", "00", "x", "2147483648", "0x80000000", "18446744073709551616", `"5"`, `""`, "h0"},
		"BYTE":   {"-1", "256", "0x100", "00", "x", `"5"`, `""`},
	}
	right := map[string]string{"ADDR": "h1", "KEY": "5", "NUMBER": "6", "BYTE": "7", "VALUE": "v", "NAME": "n"}
	rows := []string{"name NAME ADDR"}
	for _, r := range docRows() {
		rows = append(rows, r.line)
	}
	for _, r := range rows {
		sorts := strings.Fields(r)
		words := make([]string, len(sorts))
		ahead := 1 // words without which, or changed, it is another line
		if sorts[0] == "ADDR" {
			ahead = 2
		}
		for i, sort := range sorts {
			words[i] = sort
			if w, is := right[sort]; is {
				words[i] = w
			}
		}
		parses(t, head+strings.Join(words, " "))
		isFault(t, head+strings.Join(words, " ")+" 5", 2, api.ErrUsage)
		isFault(t, head+strings.Join(words, " ")+` ""`, 2, api.ErrUsage)
		for n := ahead; n < len(words); n++ {
			isFault(t, head+strings.Join(words[:n], " "), 2, api.ErrUsage)
		}
		for i := ahead; i < len(words); i++ {
			for _, w := range wrong[sorts[i]] {
				spoilt := append([]string{}, words...)
				spoilt[i] = w
				isFault(t, head+strings.Join(spoilt, " ")+"\n", 2, api.ErrUsage)
			}
		}
	}
	for _, line := range []string{"c0 at", "c0 at h1", "c0 at h1 put 5", "c0 at h1 quit", "c0 at h1 at h1 get 5", `c0 at h1 "get" 5`, `c0 at "h1" get 5`, "c0 at get 5", "c0 at x get 5", "c0 at h1 5", "c0 at h1 Get 5", "c0 at h1 none", "c0 at h1 ask net", "c0 cas 1 none", "c0 cas 1 none a b", `c0 cas 1 "none"`, "c0 cas 1 a", "clear 1", "clear clear", `clear ""`, "c0 quit 1", "c0 quit quit"} {
		isFault(t, head+line, 2, api.ErrUsage)
	}
}

func TestP18_1Addresses(t *testing.T) {
	want := map[string]api.Addr{"admin": 32}
	for n := range 16 {
		want[fmt.Sprintf("h%d", n)] = api.Addr(n)
		want[fmt.Sprintf("c%d", n)] = api.Addr(16 + n)
	}
	for n := range 256 {
		want[fmt.Sprintf("@%d", n)] = api.Addr(n)
	}
	for word, a := range want {
		isSame(t, word, parses(t, head+"sync "+word+"\n"+word+" quit\nask node "+word), asking([]api.Step{{Kind: api.SSync, A: a}, {Kind: api.SGiveUp, A: a}}, api.Ask{At: 2, What: api.AskNode, A: a}))
	}
	for n := 16; n < 1100; n++ {
		isFault(t, head+fmt.Sprintf("sync h%d", n), 2, api.ErrUsage)
		isFault(t, head+fmt.Sprintf("sync c%d", n), 2, api.ErrUsage)
		if n > 255 {
			isFault(t, head+fmt.Sprintf("sync @%d", n), 2, api.ErrUsage)
		}
	}
}

func TestP18_1Names(t *testing.T) {
	one := func(lines string, want ...api.Step) {
		t.Helper()
		isSame(t, lines, parses(t, head+lines), scriptOf(want...))
	}
	sync := func(a api.Addr) api.Step { return api.Step{Kind: api.SSync, A: a} }
	one("name a h1")
	one("name a h1\nsync a\nsync A", sync(1), sync(1))
	one("name \u00c4lpha h1\ncrash \u00e4lpha 0", api.Step{Kind: api.SCrash, A: 1})
	one("name \u039b\u039f\u0393\u039f\u03a3 h2\nsync \u03bb\u03bf\u03b3\u03bf\u03c2", sync(2))
	one("name a @200\nname b a\nname c B\nsync c", sync(200))
	one("name a h1\nname b h1\nsync a\nsync b", sync(1), sync(1))
	one("name a c0\na get 5\na at A get 5\nA quit", api.Step{Kind: api.SBegin, A: 16, Req: api.Request{Kind: api.KGet, Key: 5}}, api.Step{Kind: api.SBegin, A: 16, On: true, B: 16, Req: api.Request{Kind: api.KGet, Key: 5}}, api.Step{Kind: api.SGiveUp, A: 16})
	// Words that say something elsewhere are names all the same; a command's does not begin a client's line.
	one("name tick h1\ntick tick", api.Step{Kind: api.STick, A: 1})
	one("name tick c0\nTICK quit\nsync tick", api.Step{Kind: api.SGiveUp, A: 16}, sync(16))
	isFault(t, head+"name tick c0\ntick quit", 3, api.ErrUsage)
	one("name get c1\nget get 5", api.Step{Kind: api.SBegin, A: 17, Req: api.Request{Kind: api.KGet, Key: 5}})
	one("name at c1\nat at at get 5", api.Step{Kind: api.SBegin, A: 17, On: true, B: 17, Req: api.Request{Kind: api.KGet, Key: 5}})
	one("name cluster c1\ncluster quit", api.Step{Kind: api.SGiveUp, A: 17})
	one("name none h1\nsync none", sync(1))
	one("name name h1\nname none name\nsync none", sync(1))
	one("name net h1\nsync net", sync(1))
	one("name h h1\nname c h2\nsync h\nsync c", sync(1), sync(2))
	// Only the numbers that are there say an address.
	one("name h16 h1\nname c16 h2\nname h00 h3\nname c007 h4\nname admins h5\nname h1.0 h6\nsync H16\nsync c16\nsync h00\nsync C007\nsync admins\nsync h1.0", sync(1), sync(2), sync(3), sync(4), sync(5), sync(6))
	one("name "+strings.Repeat("\u00c4", 24)+" h1\nsync "+strings.Repeat("\u00e4", 24), sync(1))
	for n := range 16 {
		for _, mark := range []string{"h", "c", "H", "C"} {
			isFault(t, head+fmt.Sprintf("name %s%d h0", mark, n), 2, api.ErrUsage)
		}
	}
	for _, line := range []string{"name admin h0", "name Admin h0", "name ADMIN h0", "name", "name a", "name a h0 h1", `name "a" h0`, `name a "h0"`, "name 1a h0", "name -a h0", "name @5 h0", "name a/b h0", "name " + strings.Repeat("a", 25) + " h0", "name a a", "name a b", "name a h16", "name \u65e5 h0", "name h0 h0", "name a 5"} {
		isFault(t, head+line, 2, api.ErrUsage)
	}
	for _, lines := range []string{"name a h0\nname a h1", "name a h0\nname A h0", "name \u00c4 h0\nname \u00e4 h0", "name \u03c2 h0\nname \u03a3 h0", "name a h0\nname A A"} {
		isFault(t, head+lines, 3, api.ErrUsage)
	}
	// A name stands from the next line on, and one of another script is not there.
	isFault(t, head+"sync a\nname a h0", 2, api.ErrUsage)
	parses(t, head+"name a h0\nsync a")
	isFault(t, head+"sync a", 2, api.ErrUsage)
}

func TestP18_1Header(t *testing.T) {
	words := strings.Fields(head)
	change := func(i int, w string) string {
		changed := append([]string{}, words...)
		changed[i] = w
		return strings.Join(changed, " ")
	}
	isSame(t, "the configuration", parses(t, head), scriptOf())
	isSame(t, "the configuration", parses(t, strings.TrimSuffix(head, "\n")), scriptOf())
	isSame(t, "spread", parses(t, "\n#\n\t"+strings.ReplaceAll(head, " ", " \t ")), scriptOf())
	var twelve api.Config
	for i, place := range []*int{&twelve.Hosts, &twelve.Clients, &twelve.Pairs, &twelve.Bounds, &twelve.Queue, &twelve.Window, &twelve.Group, &twelve.Keep, &twelve.MTU, &twelve.Net, &twelve.Patience, &twelve.Tries} {
		name, _, _ := strings.Cut(words[i+1], "=")
		for written, n := range map[string]int{"0": 0, "2147483647": 2147483647, "0x7fffffff": 2147483647, "0x0000000a": 10, "65536": 65536} {
			twelve = config()
			*place = n
			isSame(t, name, parses(t, change(i+1, name+"="+written)), api.Script{Config: twelve})
		}
		for _, w := range []string{name, name + "=", name + "=-1", name + "=x", name + "=2147483648", name + "=18446744073709551616", name + "=01", name + "==1", name + "=1=1", "=1", "1", strings.ToUpper(name) + "=1", name + "s=1", "x" + name + "=1", `"` + name + `=1"`, `""`, words[(i+1)%12+1], name + "=0x"} {
			isFault(t, change(i+1, w), 1, api.ErrUsage)
		}
		isFault(t, strings.Join(append(append([]string{}, words[:i+1]...), words[i+2:]...), " "), 1, api.ErrHeader)
	}
	for _, line := range []string{"cluster", "clear", "x", "5", `""`, strings.Join(words, " ") + " 5", strings.Join(words, " ") + " tries=3", strings.Join(words, " ") + ` ""`, change(0, "Cluster"), change(0, `"cluster"`), change(0, "name"), change(0, "c0"), strings.Join(words[1:], " "), "name a h0", "ask net"} {
		isFault(t, line, 1, api.ErrHeader)
		isFault(t, "\n#\n"+line+"\n"+head, 3, api.ErrHeader)
	}
}

func TestP18_1NoLineWithWords(t *testing.T) {
	for s, at := range map[string]int{"": 1, "\n": 1, " ": 1, "#": 1, "# a\n": 1, "\n\n": 2, "\n ": 2, "# nothing\n\n  \n": 3, "\t\n#\n#\n#": 4, strings.Repeat("\n", 4096): 4096, strings.Repeat("#\n", 4095) + "#": 4096} {
		isFault(t, s, at, api.ErrHeader)
	}
}

func TestP18_1Lines(t *testing.T) {
	full := head + strings.Repeat("clear\n", 4095)
	isSame(t, "MaxLines lines", len(parses(t, full).Steps), 4095)
	isSame(t, "MaxLines lines", len(parses(t, strings.TrimSuffix(full, "\n")).Steps), 4095)
	isSame(t, "MaxLines lines", parses(t, head+strings.Repeat("\n", 4095)), scriptOf())
	for _, s := range []string{full + "clear\n", full + "\n", full + " ", full + "#", full + "\xff", strings.Repeat("\n", 4097), strings.Repeat("\xff\n", 5000), strings.Repeat("x\n", 4097), "x" + strings.Repeat("\n", 9999), strings.Repeat("\n", 1<<20)} {
		isFault(t, s, 4097, api.ErrScript)
	}
	isFault(t, full+"\n"+strings.Repeat("y", 5000), 4097, api.ErrScript)
	isFault(t, strings.TrimSuffix(full, "clear\n")+"x", 4096, api.ErrCommand)
	isFault(t, strings.Repeat("\n", 4095)+"\xff\n", 4096, api.ErrBroken)
	// The lines' ends are U+000A alone.
	isFault(t, strings.TrimSuffix(head, "\n")+"\r\n", 1, api.ErrWord)
	isFault(t, head+"clear\u2028clear", 2, api.ErrWord)
}

func TestP18_1WordsErrors(t *testing.T) {
	inject := `inject @33 h0 `
	for line, e := range map[string]api.Errno{
		strings.Repeat("x", 4097):          api.ErrLong,
		strings.Repeat(" ", 4097):          api.ErrLong,
		"#" + strings.Repeat("\xff", 4096): api.ErrLong,
		`c0 set 1 "a`:                      api.ErrQuote,
		`c0 set 1 "a"b`:                    api.ErrQuote,
		`c0 set 1 "\q"`:                    api.ErrEscape,
		"c0 set 1 \"\x01\"":                api.ErrEscape,
		"c0 set 1 \"\xff\"":                api.ErrBroken,
		"\xff":                             api.ErrBroken,
		`c0 set 1 a"b`:                     api.ErrWord,
		`c0 set 1 a\b`:                     api.ErrWord,
		"c0 set 1\u00a0":                   api.ErrWord,
		strings.Repeat("x ", 65):           api.ErrWords,
		`"clear`:                           api.ErrQuote,
		inject + strings.Repeat("x", 4097-len(inject)): api.ErrLong,
	} {
		isFault(t, head+line, 2, e)
		isFault(t, head+"clear\n\n"+line+"\nx\n", 4, e)
		isFault(t, line+"\n"+head, 1, e)
		isFault(t, "\n"+line+"\nx", 2, e)
	}
	isFault(t, head+strings.Repeat("x ", 64), 2, api.ErrCommand)
	isSame(t, "MaxLine bytes", parses(t, head+inject+strings.Repeat("x", 4096-len(inject))), scriptOf(api.Step{Kind: api.SInject, A: 33, Data: []byte(strings.Repeat("x", 4096-len(inject)))}))
	isSame(t, "MaxLine bytes", parses(t, head+"clear #"+strings.Repeat("\xff", 4096-7)+"\n"), scriptOf(clears(1)...))
}

// The first line at fault is told, whatever stands behind it.
func TestP18_1FirstFault(t *testing.T) {
	faults := map[string]api.Errno{"x": api.ErrCommand, "deliver": api.ErrUsage, `"`: api.ErrQuote, "ask": api.ErrCommand, "name h0 h0": api.ErrUsage}
	for a, e := range faults {
		for b := range faults {
			isFault(t, head+"clear\n"+a+"\n"+b+"\n"+a, 3, e)
			if e == api.ErrQuote {
				isFault(t, a+"\n"+b, 1, e)
			} else {
				isFault(t, a+"\n"+b, 1, api.ErrHeader)
			}
		}
	}
	isFault(t, strings.Replace(head, "net=64", "net=x", 1)+"\"\nx", 1, api.ErrUsage)
	// Within a line ErrCommand comes first.
	isFault(t, head+`c0 put "x" 99999999999999999999`, 2, api.ErrCommand)
	isFault(t, head+`ask what "x" y`, 2, api.ErrCommand)
}

// A line of many words is read as the second shell reads it.
func TestP18_1AsTheTwinSays(t *testing.T) {
	seen := map[api.Errno]int{}
	check := func(s string) {
		t.Helper()
		script, at, e := shell.Parse(s)
		want, wantAt, wantE := docParse(s)
		if at != wantAt || e != wantE || !same(script, want) {
			t.Fatalf("Parse(%.900q): %s, %d, %d; want %s, %d, %d", s, brief(script), at, e, brief(want), wantAt, wantE)
		}
		seen[e]++
	}
	for seed := range 3000 {
		d := diceOf(seed)
		check(d.text(20))
		check(head + "name a c0\nname \u00e4lpha h1\nname tick c1\nname ask h16\n" + d.line())
		check(head + "name a c0\nname \u00e4lpha h1\nname tick c1\nname get h3\n" + d.line())
	}
	for _, e := range []api.Errno{api.OK, api.ErrHeader, api.ErrCommand, api.ErrUsage, api.ErrBroken, api.ErrQuote, api.ErrWord} {
		if seen[e] < 10 {
			t.Errorf("of error %d there were %d", e, seen[e])
		}
	}
}

// All lines of few words out of a short list are read as the second shell reads them.
func TestP18_1ShortLines(t *testing.T) {
	words := []string{"c0", "n", "x", "at", "get", "cas", "quit", "ask", "net", "table", "name", "tick", "none", "5", `"5"`, "clear"}
	var lines func(ahead string, left int)
	lines = func(ahead string, left int) {
		s := head + "name n c1\n" + ahead
		script, at, e := shell.Parse(s)
		want, wantAt, wantE := docParse(s)
		if at != wantAt || e != wantE || !same(script, want) {
			t.Fatalf("Parse(%q): %s, %d, %d; want %s, %d, %d", s, brief(script), at, e, brief(want), wantAt, wantE)
		}
		for _, w := range words {
			if left > 0 {
				lines(ahead+" "+w, left-1)
			}
		}
	}
	lines("", 3)
	for _, w := range []string{"c0 at n", "n cas 5", "c0 at c0 cas 5", "name"} {
		lines(w, 2)
	}
}

func TestP18_1LongTexts(t *testing.T) {
	isFault(t, strings.Repeat("x", 1<<24), 1, api.ErrLong)
	isFault(t, head+strings.Repeat("\"", 1<<24), 2, api.ErrLong)
	isFault(t, strings.Repeat("\n", 1<<24), 4097, api.ErrScript)
	long := strings.Repeat("\x7f", 600)
	s := head + strings.Repeat("inject @33 h0 "+text.Quote(long)+"\n", 4095)
	isSame(t, "the last step", parses(t, s).Steps[4094], api.Step{Kind: api.SInject, A: 33, Data: []byte(long)})
}
