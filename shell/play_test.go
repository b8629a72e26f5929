package shell_test

import (
	"fmt"
	"slices"
	"strings"
	"testing"

	"shard/api"
	"shard/history"
	"shard/shell"
)

func isRefused(t *testing.T, what string, s api.Script, err api.Errno) {
	t.Helper()
	if told, e := shell.Play(s); told != "" || e != err {
		t.Errorf("%s: %.900q, %d; want %d", what, told, e, err)
	}
}

func TestP18_3Errors(t *testing.T) {
	net := func(at int) api.Ask { return api.Ask{At: at, What: api.AskNet} }
	for _, asks := range [][]api.Ask{{net(-1)}, {net(3)}, {net(1), net(0)}, {net(2), net(1)}, {net(0), net(2), net(1)}, {{}}, {{What: 13}}, {{What: 255}}, {net(0), {At: 2}}, {net(1<<63 - 1), net(-1 << 63)}} {
		isRefused(t, shown(asks), asking(clears(2), asks...), api.ErrScript)
		s := asking(clears(2), asks...)
		s.Config = api.Config{}
		isRefused(t, shown(asks), s, api.ErrScript)
	}
	var c api.Config
	for _, place := range []*int{&c.Hosts, &c.Queue, &c.Window, &c.Group, &c.Keep, &c.MTU, &c.Net, &c.Patience, &c.Tries} {
		c = config()
		*place = 0
		isRefused(t, headOf(c), api.Script{Config: c, Steps: clears(1), Asks: []api.Ask{net(1)}}, api.ErrConfig)
	}
	isRefused(t, "a negative number", api.Script{Config: api.Config{Hosts: -1}}, api.ErrConfig)
	isRefused(t, "no configuration", api.Script{}, api.ErrConfig)
	isSame(t, "nothing to play", plays(t, scriptOf()), "")
}

// What no text says is played all the same.
func TestP18_3Unprintable(t *testing.T) {
	isSame(t, "no kind", plays(t, scriptOf(api.Step{}, api.Step{Kind: 16}, api.Step{Kind: 255})), lined("0: errno 170, sent 0", "1: errno 170, sent 0", "2: errno 170, sent 0"))
	isSame(t, "a number below 0", plays(t, scriptOf(api.Step{Kind: api.SDeliver, N: -1}, api.Step{Kind: api.SClear, N: -7})), lined("0: errno 54, sent 0", "1: ok, sent 0"))
	isSame(t, "an A that is not said", plays(t, asking(nil, api.Ask{What: api.AskPairs, A: 200})), lined("ask pairs", "  nothing"))
	long := scriptOf(clears(5000)...)
	isSame(t, "many steps", strings.Count(plays(t, long), ": ok, sent 0\n"), 5000)
	isSame(t, "the last", strings.HasSuffix(plays(t, long), "\n4999: ok, sent 0\n"), true)
	for _, n := range []int{1300, 1 << 20} {
		isSame(t, "a long value", plays(t, scriptOf(api.Step{Kind: api.SInject, A: 33, Data: make([]byte, n)})), lined("0: errno 51, sent 0"))
	}
}

func TestP18_3Steps(t *testing.T) {
	isTold(t, config(), "c0 set 5 v\ndeliver 0\ndeliver 0\nshard h0 h1 0 9 0 0\ndeliver 0\ndeliver 1\nc0 get 5\nc0 quit\nc0 quit\nclear\ndeliver 0\nsync c0\ncrash h1 0\nrestart h1\nrestart h1",
		"0: ok, sent 1",
		`  0: c0 begins set seq=1 key=5 value="v"`,
		"1: ok, sent 1",
		"2: ok, sent 0",
		`  2: c0 ends seq=1 status=ok host=0 sent=1 hops=0 value="" hi=0 pairs=[]`,
		"3: ok, sent 1",
		"  3: admin asks h0 shard seq=1 key=0 hi=9 host=1 grant=0 bounds=0",
		"4: ok, sent 2",
		"5: ok, sent 0",
		"  5: admin hears h0 done seq=1 status=ok",
		"6: ok, sent 1",
		"  6: c0 begins get seq=2 key=5",
		"7: ok, sent 0",
		"  7: c0 gives up seq=2",
		"8: errno 121, sent 0",
		"9: ok, sent 0",
		"10: errno 54, sent 0",
		"11: errno 170, sent 0",
		"12: ok, sent 0",
		"13: ok, sent 0",
		"14: errno 111, sent 0",
	)
	// A step may make several events.
	isTold(t, wide(), "c0 set 5 v\nc1 set 6 w\nsettle 1 0",
		"0: ok, sent 1",
		`  0: c0 begins set seq=1 key=5 value="v"`,
		"1: ok, sent 1",
		`  1: c1 begins set seq=1 key=6 value="w"`,
		"2: ok, sent 2",
		`  2: c0 ends seq=1 status=ok host=0 sent=1 hops=0 value="" hi=0 pairs=[]`,
		`  2: c1 ends seq=1 status=ok host=0 sent=1 hops=0 value="" hi=0 pairs=[]`,
	)
}

func TestP18_3Order(t *testing.T) {
	steps := []api.Step{{Kind: api.SBegin, A: 16, Req: api.Request{Kind: api.KGet, Key: 5}}, {Kind: api.SClear}}
	ask := func(at int, what api.AskKind) api.Ask { return api.Ask{At: at, What: what} }
	s := asking(steps, ask(0, api.AskNet), ask(0, api.AskLog), ask(1, api.AskLog), ask(1, api.AskNet), ask(2, api.AskNet), ask(2, api.AskNet))
	isSame(t, "in their order", plays(t, s), lined(
		"ask net", "  nothing",
		"ask log", "  nothing",
		"0: ok, sent 1", "  0: c0 begins get seq=1 key=5",
		"ask log", "  0: c0 begins get seq=1 key=5",
		"ask net", "  0: c0 > h0, packet 1, part 1 of 1, get seq=1 key=5",
		"1: ok, sent 0",
		"ask net", "  nothing",
		"ask net", "  nothing",
	))
	isSame(t, "questions alone", plays(t, asking(nil, ask(0, api.AskCount))), lined("ask count", "  sent 0, injected 0, delivered 0, copied 0, dropped 0, lost 0, barred 0"))
}

// Questions change nothing.
func TestP18_3QuestionsAskAlone(t *testing.T) {
	for seed := range 60 {
		d := diceOf(seed)
		s := d.script(d.config(), 40, 2)
		asked := strings.Split(plays(t, s), "\n")
		s.Asks = nil
		var kept []string
		within := false
		for _, line := range asked {
			if !strings.HasPrefix(line, "  ") {
				within = strings.HasPrefix(line, "ask ")
			}
			if !within {
				kept = append(kept, line)
			}
		}
		isSame(t, fmt.Sprint("seed ", seed), plays(t, s), strings.Join(kept, "\n"))
	}
}

// Random scripts are played as the second shell plays them.
func TestP18_3AsTheTwinSays(t *testing.T) {
	seen := map[string]int{}
	for seed := range 400 {
		d := diceOf(seed)
		s := d.script(d.config(), d.Intn(300), 1)
		if seed%10 == 0 {
			for range 3 {
				d.noise(&s)
			}
		}
		told, e := shell.Play(s)
		want, wantE := docPlay(s)
		if told != want || e != wantE {
			t.Fatalf("seed %d: %s, %d; want %s, %d", seed, firstOther(told, want), e, firstOther(want, told), wantE)
		}
		for _, word := range []string{"ask net\n  0: ", "ask pairs\n  1", "  waiting, ", "  done, ", "  unknown, ", "  idle", "  down, ", "  up, ", " f1", "ask moves\n  h", "ask moves\n  errno 151", "ask linear\n  linearizable\n  order 0", "  errno 2\n", " bytes\n", ", part 2 of ", ", value ", ", 1=", ", data seq=", ", injected 1", ", status differs", ", status nocredit", "hops 1", ": errno 53", ", copied 1", "ask log\n  0: "} {
			if strings.Contains(told, word) {
				seen[word]++
			}
		}
		if strings.Contains(told, "ask audit\n  ") != strings.Contains(told, "ask audit\n  nothing\n") {
			t.Errorf("seed %d: the audit found something", seed)
		}
		if strings.Contains(told, "not linearizable") {
			t.Errorf("seed %d: not linearizable", seed)
		}
		seen["all"]++
	}
	if len(seen) < 26 {
		t.Errorf("seen but %d sorts of lines: %v", len(seen), seen)
	}
}

// firstOther gives the first line of a text that is not the other's.
func firstOther(a, b string) string {
	lines, others := strings.Split(a, "\n"), strings.Split(b, "\n")
	for i, line := range lines {
		if i >= len(others) || line != others[i] {
			return fmt.Sprintf("line %d %.300q", i+1, line)
		}
	}
	return "less"
}

// A crash, a copy and a stranger are told like all else; the log is what history says of the steps' events.
func TestP18_3Log(t *testing.T) {
	for seed := range 40 {
		d := diceOf(seed)
		s := d.script(d.config(), 80, 0)
		s.Asks = []api.Ask{{At: len(s.Steps), What: api.AskLog}}
		steps, log, _ := strings.Cut(plays(t, s), "ask log\n")
		var events []string
		for _, line := range strings.SplitAfter(steps, "\n") {
			if strings.HasPrefix(line, "  ") {
				events = append(events, line)
			}
		}
		if len(events) == 0 {
			events = []string{"  nothing\n"}
		}
		isSame(t, "the log", log, strings.Join(events, ""))
	}
	line, _ := history.Line(api.Event{Kind: api.EvInvoke, Who: 16, Seq: 1, Req: api.Request{Kind: api.KGet, Key: 5}})
	isTold(t, config(), "c0 get 5", "0: ok, sent 1", "  "+line)
}

func TestP18_5Run(t *testing.T) {
	isRun := func(s string, line int, err api.Errno) {
		t.Helper()
		if told, at, e := shell.Run(s); told != "" || at != line || e != err {
			t.Errorf("Run(%.300q): %.300q, %d, %d; want %d, %d", s, told, at, e, line, err)
		}
	}
	isRun("", 1, api.ErrHeader)
	isRun("\n\n", 2, api.ErrHeader)
	isRun(head+"clear\nx\n", 3, api.ErrCommand)
	isRun(head+"\n\ndeliver\n", 4, api.ErrUsage)
	isRun(head+`"`, 2, api.ErrQuote)
	isRun(strings.Repeat("\n", 4097), 4097, api.ErrScript)
	isRun(strings.Replace(head, "hosts=2", "hosts=17", 1), 1, api.ErrConfig)
	isRun("\n\n"+strings.Replace(head, "mtu=256", "mtu=63", 1)+"clear\n", 1, api.ErrConfig)
	// A fault in the text comes ahead of the configuration's.
	isRun(strings.Replace(head, "hosts=2", "hosts=17", 1)+"\nx", 3, api.ErrCommand)
	isSame(t, "nothing to play", runs(t, head), "")
	isSame(t, "a step", runs(t, head+"clear"), "0: ok, sent 0\n")
	if told, at, e := shell.Run(head + "clear"); told != "0: ok, sent 0\n" || at != 0 || e != api.OK {
		t.Errorf("%q, %d, %d", told, at, e)
	}
}

// W11: what Print gives is the script again, and what Run tells is what Play tells of it.
func TestW11Text(t *testing.T) {
	for seed := range 400 {
		d := diceOf(seed)
		s := d.script(d.config(), d.Intn(30), 1)
		text := prints(t, s)
		isSame(t, "Parse of Print", parses(t, text), s)
		isSame(t, "Run of Print", runs(t, text), plays(t, s))
	}
	taken := 0
	for seed := range 1000 {
		written := diceOf(seed).text(4)
		s, at, e := shell.Parse(written)
		told, runAt, runE := shell.Run(written)
		if e != api.OK {
			isSame(t, written, []any{told, runAt, runE}, []any{"", at, e})
			continue
		}
		taken++
		want, wantE := shell.Play(s)
		isSame(t, written, []any{told, runE}, []any{want, wantE})
		text, e := shell.Print(s)
		isSame(t, written, e, api.OK)
		isSame(t, written, parses(t, text), s)
		isSame(t, written, prints(t, parses(t, text)), text)
	}
	if taken < 100 {
		t.Errorf("%d texts were scripts", taken)
	}
}

// Every line ends with U+000A, and a line with two blanks ahead belongs to a step or a question.
func TestP18_3Lines(t *testing.T) {
	for seed := range 40 {
		d := diceOf(seed)
		s := d.script(d.config(), 60, 1)
		told := plays(t, s)
		lines := strings.Split(told, "\n")
		isSame(t, "the last line", lines[len(lines)-1], "")
		heads := slices.DeleteFunc(lines[:len(lines)-1], func(line string) bool { return strings.HasPrefix(line, "  ") })
		isSame(t, "steps and questions", len(heads), len(s.Steps)+len(s.Asks))
		isSame(t, "in the printed order", len(heads), strings.Count(prints(t, s), "\n")-1)
		for i, printed := range strings.Split(prints(t, s), "\n")[1:] {
			if strings.HasPrefix(printed, "ask ") {
				isSame(t, "a question's line", heads[i], printed)
			}
		}
	}
}
