package shell_test

import (
	"fmt"
	"slices"
	"strings"
	"testing"

	"shard/api"
	"shard/shell"
)

// eachKind are steps of every kind, with a number in each field that their lines say, and the lines.
var eachKind = []struct {
	step api.Step
	line string
	says string // the fields, by name
}{
	{api.Step{Kind: api.SBegin, A: 16, Req: api.Request{Kind: api.KGet, Key: 5}}, "c0 get 5", "A Key"},
	{api.Step{Kind: api.SBegin, A: 31, Req: api.Request{Kind: api.KSet, Key: top, Value: []byte("a b")}}, `c15 set 18446744073709551615 "a b"`, "A Key Value"},
	{api.Step{Kind: api.SBegin, A: 32, Req: api.Request{Kind: api.KDelete, Key: 10}}, "admin delete 10", "A Key"},
	{api.Step{Kind: api.SBegin, A: 17, Req: api.Request{Kind: api.KCas, Key: 5, Value: []byte("x")}}, `c1 cas 5 none "x"`, "A Key Value"},
	{api.Step{Kind: api.SBegin, A: 17, Req: api.Request{Kind: api.KCas, Key: 5, Has: true, Old: []byte("none"), Value: []byte("x")}}, `c1 cas 5 "none" "x"`, "A Key Old Value"},
	{api.Step{Kind: api.SBegin, A: 200, Req: api.Request{Kind: api.KScan, Key: 5, Hi: 9, Limit: 255}}, "@200 scan 5 9 255", "A Key ReqHi Limit"},
	{api.Step{Kind: api.SBegin, A: 16, On: true, B: 1, Req: api.Request{Kind: api.KGet, Key: 5}}, "c0 at h1 get 5", "A B Key"},
	{api.Step{Kind: api.SBegin, A: 16, On: true, B: 255, Req: api.Request{Kind: api.KSet, Key: 5, Value: []byte("\xff")}}, `c0 at @255 set 5 "\xff"`, "A B Key Value"},
	{api.Step{Kind: api.SBegin, A: 16, On: true, B: 15, Req: api.Request{Kind: api.KDelete, Key: 5}}, "c0 at h15 delete 5", "A B Key"},
	{api.Step{Kind: api.SBegin, A: 16, On: true, B: 32, Req: api.Request{Kind: api.KCas, Key: 5, Value: []byte("#")}}, `c0 at admin cas 5 none "#"`, "A B Key Value"},
	{api.Step{Kind: api.SBegin, A: 16, On: true, B: 1, Req: api.Request{Kind: api.KCas, Key: 5, Has: true, Old: []byte("o"), Value: []byte("v")}}, `c0 at h1 cas 5 "o" "v"`, "A B Key Old Value"},
	{api.Step{Kind: api.SBegin, A: 16, On: true, B: 1, Req: api.Request{Kind: api.KScan, Key: 5, Hi: 9, Limit: 1}}, "c0 at h1 scan 5 9 1", "A B Key ReqHi Limit"},
	{api.Step{Kind: api.SGiveUp, A: 18}, "c2 quit", "A"},
	{api.Step{Kind: api.SShard, A: 1, B: 2, Lo: 3, Hi: 4, N: 5, M: 6}, "shard h1 h2 3 4 5 6", "A B Lo Hi N M"},
	{api.Step{Kind: api.SDeliver, N: 3}, "deliver 3", "N On"},
	{api.Step{Kind: api.SDeliver, N: 3, On: true}, "copy 3", "N On"},
	{api.Step{Kind: api.SDrop, N: 4}, "drop 4", "N"},
	{api.Step{Kind: api.SInject, A: 33, B: 1, Data: []byte("x\"y")}, `inject @33 h1 "x\"y"`, "A B Data"},
	{api.Step{Kind: api.STick, A: 16}, "tick c0", "A"},
	{api.Step{Kind: api.SSync, A: 5}, "sync h5", "A"},
	{api.Step{Kind: api.SCompact, A: 6}, "compact h6", "A"},
	{api.Step{Kind: api.SRestart, A: 7}, "restart h7", "A"},
	{api.Step{Kind: api.SCrash, A: 8, N: 9}, "crash h8 9", "A N"},
	{api.Step{Kind: api.SBlock, A: 1, B: 16, On: true}, "block h1 c0", "A B On"},
	{api.Step{Kind: api.SBlock, A: 1, B: 16}, "heal h1 c0", "A B On"},
	{api.Step{Kind: api.SClear}, "clear", ""},
	{api.Step{Kind: api.SSettle, N: 3, Lo: top}, "settle 3 18446744073709551615", "N Lo"},
	{api.Step{Kind: api.SPlan, N: 4}, "plan 4", "N"},
}

// fields are ways to change one field of a step, each to a value that is neither zero nor one of eachKind's.
var fields = []struct {
	name   string
	change func(s *api.Step)
}{
	{"A", func(s *api.Step) { s.A = 99 }},
	{"B", func(s *api.Step) { s.B = 99 }},
	{"N", func(s *api.Step) { s.N = 99 }},
	{"M", func(s *api.Step) { s.M = 99 }},
	{"On", func(s *api.Step) { s.On = !s.On }},
	{"Lo", func(s *api.Step) { s.Lo = 99 }},
	{"Hi", func(s *api.Step) { s.Hi = 99 }},
	{"Data", func(s *api.Step) { s.Data = []byte("data") }},
	{"Key", func(s *api.Step) { s.Req.Key = 99 }},
	{"ReqHi", func(s *api.Step) { s.Req.Hi = 99 }},
	{"Value", func(s *api.Step) { s.Req.Value = []byte("value") }},
	{"Old", func(s *api.Step) { s.Req.Old = []byte("old") }},
	{"Limit", func(s *api.Step) { s.Req.Limit = 99 }},
}

func TestP18_2EachKind(t *testing.T) {
	var all []api.Step
	var lines []string
	for _, c := range eachKind {
		isSame(t, c.line, prints(t, scriptOf(c.step)), head+c.line+"\n")
		isSame(t, c.line, parses(t, head+c.line), scriptOf(c.step))
		all, lines = append(all, c.step), append(lines, c.line)
	}
	isSame(t, "all of them", prints(t, scriptOf(all...)), head+lined(lines...))
	isSame(t, "none", prints(t, scriptOf()), head)
	for kind := range 256 {
		if kind < 1 || kind > 15 {
			isUnprintable(t, fmt.Sprint("kind ", kind), scriptOf(api.Step{Kind: api.StepKind(kind)}))
			isUnprintable(t, fmt.Sprint("kind ", kind), scriptOf(api.Step{Kind: api.SClear}, api.Step{Kind: api.StepKind(kind)}))
		}
	}
}

// A field that the line says may be anything, every other one must be zero.
func TestP18_2Fields(t *testing.T) {
	for _, c := range eachKind {
		for _, f := range fields {
			s := c.step
			f.change(&s)
			if slices.Contains(strings.Fields(c.says), f.name) {
				isSame(t, c.line+" with another "+f.name, parses(t, prints(t, scriptOf(s))), scriptOf(s))
			} else if f.name == "On" && s.Kind == api.SBegin && s.On {
				isSame(t, c.line+" at h0", parses(t, prints(t, scriptOf(s))), scriptOf(s))
			} else {
				isUnprintable(t, c.line+" with "+f.name, scriptOf(s))
			}
		}
		empty := c.step
		for _, list := range []*[]byte{&empty.Data, &empty.Req.Value, &empty.Req.Old} {
			*list = append(make([]byte, 0, 9), *list...)
		}
		isSame(t, c.line+" with empty lists", prints(t, scriptOf(empty)), head+c.line+"\n")
		if c.step.Kind != api.SBegin {
			for kind := range 12 {
				s := c.step
				s.Req.Kind = api.Kind(kind + 1)
				isUnprintable(t, c.line+" with a request", scriptOf(s))
			}
			s := c.step
			s.Req.Has = true
			isUnprintable(t, c.line+" with Has", scriptOf(s))
		}
	}
	// A Cas says none where Has is false, and an Old, an empty one too, where it is true.
	cas := api.Step{Kind: api.SBegin, A: 16, Req: api.Request{Kind: api.KCas, Key: 5, Has: true}}
	isSame(t, "an empty Old", prints(t, scriptOf(cas)), head+"c0 cas 5 \"\" \"\"\n")
	for _, kind := range []api.Kind{api.KGet, api.KSet, api.KDelete, api.KScan} {
		isUnprintable(t, "Has", scriptOf(api.Step{Kind: api.SBegin, A: 16, Req: api.Request{Kind: kind, Has: true}}))
	}
	for kind := range 256 {
		if kind < 1 || kind > 5 {
			for _, on := range []bool{false, true} {
				isUnprintable(t, fmt.Sprint("a request of kind ", kind), scriptOf(api.Step{Kind: api.SBegin, A: 16, On: on, Req: api.Request{Kind: api.Kind(kind)}}))
			}
		}
	}
}

func TestP18_2Numbers(t *testing.T) {
	for _, c := range eachKind {
		for _, n := range []int{0, 1, 2147483647, -1, -2147483648, 2147483648, 1 << 32, 1<<32 + 3, 1<<63 - 1, -1 << 63} {
			for _, name := range []string{"N", "M"} {
				s := c.step
				*map[string]*int{"N": &s.N, "M": &s.M}[name] = n
				if n == 0 || slices.Contains(strings.Fields(c.says), name) && n > 0 && n <= 2147483647 {
					isSame(t, c.line, parses(t, prints(t, scriptOf(s))), scriptOf(s))
				} else {
					isUnprintable(t, fmt.Sprint(c.line, " with ", name, " ", n), scriptOf(s))
				}
			}
		}
	}
}

func TestP18_2Addresses(t *testing.T) {
	for a := range 256 {
		want := fmt.Sprintf("@%d", a)
		switch {
		case a < 16:
			want = fmt.Sprintf("h%d", a)
		case a < 32:
			want = fmt.Sprintf("c%d", a-16)
		case a == 32:
			want = "admin"
		}
		s := asking([]api.Step{{Kind: api.SBlock, A: api.Addr(a), B: api.Addr(255 - a), On: true}, {Kind: api.SGiveUp, A: api.Addr(a)}}, api.Ask{At: 2, What: api.AskTable, A: api.Addr(a)})
		text := prints(t, s)
		if !strings.HasPrefix(text, head+"block "+want+" ") || !strings.HasSuffix(text, "\n"+want+" quit\nask table "+want+"\n") {
			t.Errorf("%d: %q", a, text)
		}
		isSame(t, want, parses(t, text), s)
	}
}

func TestP18_2Values(t *testing.T) {
	for b := range 256 {
		for _, value := range [][]byte{{byte(b)}, {'a', byte(b)}, {byte(b), ' ', byte(b)}, {0xc3, byte(b)}} {
			s := scriptOf(api.Step{Kind: api.SInject, A: 33, Data: value}, api.Step{Kind: api.SBegin, Req: api.Request{Kind: api.KCas, Has: true, Old: value, Value: value}})
			isSame(t, "a value", parses(t, prints(t, s)), s)
		}
	}
}

func TestP18_2Config(t *testing.T) {
	isSame(t, "zeros", prints(t, api.Script{}), "cluster hosts=0 clients=0 pairs=0 bounds=0 queue=0 window=0 group=0 keep=0 mtu=0 net=0 patience=0 tries=0\n")
	var c api.Config
	for _, place := range []*int{&c.Hosts, &c.Clients, &c.Pairs, &c.Bounds, &c.Queue, &c.Window, &c.Group, &c.Keep, &c.MTU, &c.Net, &c.Patience, &c.Tries} {
		for _, n := range []int{0, 7, 2147483647} {
			c = config()
			*place = n
			isSame(t, "a configuration", prints(t, api.Script{Config: c}), headOf(c))
			isSame(t, "a configuration", parses(t, headOf(c)).Config, c)
		}
		for _, n := range []int{-1, 2147483648, 1 << 32, 1<<32 + 2, -1 << 63, 1<<63 - 1} {
			c = config()
			*place = n
			isUnprintable(t, headOf(c), api.Script{Config: c})
		}
	}
}

func TestP18_2Asks(t *testing.T) {
	for i, word := range docQuestions {
		what := api.AskKind(i + 1)
		line := "ask " + word
		if i < 8 {
			isUnprintable(t, word+" of somebody", asking(nil, api.Ask{What: what, A: 1}))
			isUnprintable(t, word+" of somebody", asking(nil, api.Ask{What: what, A: 255}))
			isSame(t, word, prints(t, asking(nil, api.Ask{What: what})), head+line+"\n")
		} else {
			isSame(t, word, prints(t, asking(nil, api.Ask{What: what})), head+line+" h0\n")
			isSame(t, word, prints(t, asking(nil, api.Ask{What: what, A: 40})), head+line+" @40\n")
		}
	}
	for what := range 256 {
		if what < 1 || what > 12 {
			isUnprintable(t, fmt.Sprint("question ", what), asking(nil, api.Ask{What: api.AskKind(what)}))
		}
	}
	net := func(at int) api.Ask { return api.Ask{At: at, What: api.AskNet} }
	count := func(at int) api.Ask { return api.Ask{At: at, What: api.AskCount} }
	isSame(t, "in their order", prints(t, asking(clears(2), count(0), net(0), net(1), net(2), count(2))), head+lined("ask count", "ask net", "clear", "ask net", "clear", "ask net", "ask count"))
	for _, asks := range [][]api.Ask{{net(-1)}, {net(3)}, {net(1), net(0)}, {net(2), net(1)}, {net(0), net(2), net(1)}, {net(0), net(3)}, {net(-1), net(0)}, {net(-1 << 63)}, {net(1<<63 - 1)}, {net(1<<63 - 1), net(-1 << 63)}} {
		isUnprintable(t, shown(asks), asking(clears(2), asks...))
	}
	isUnprintable(t, "behind no step", asking(nil, net(1)))
}

func TestP18_2LongLines(t *testing.T) {
	step := func(n int) api.Step {
		return api.Step{Kind: api.SInject, A: 33, Data: []byte(strings.Repeat("x", n))}
	}
	const beside = len(`inject @33 h0 ""`)
	isSame(t, "MaxLine bytes", prints(t, scriptOf(step(4096-beside))), head+`inject @33 h0 "`+strings.Repeat("x", 4096-beside)+"\"\n")
	for _, n := range []int{4097 - beside, 4095, 4096, 4097, 1 << 20} {
		isUnprintable(t, fmt.Sprint(n, " bytes"), scriptOf(step(n)))
		isUnprintable(t, fmt.Sprint(n, " bytes"), scriptOf(step(1), step(n), step(1)))
	}
	// A byte may take six of the line's.
	const each = (4096 - beside) / 6
	isSame(t, "hidden runes", len(prints(t, scriptOf(api.Step{Kind: api.SInject, A: 33, Data: []byte(strings.Repeat("\x7f", each))}))), len(head)+beside+6*each+1)
	isUnprintable(t, "hidden runes", scriptOf(api.Step{Kind: api.SInject, A: 33, Data: []byte(strings.Repeat("\x7f", each+1))}))
	// All of a line counts, and each line for itself.
	long := []byte(strings.Repeat("y", 2100))
	for _, r := range []api.Request{{Kind: api.KCas, Has: true, Old: long, Value: long}, {Kind: api.KSet, Value: make([]byte, 4096)}, {Kind: api.KCas, Has: true, Old: make([]byte, 5000)}} {
		isUnprintable(t, "a long request", scriptOf(api.Step{Kind: api.SBegin, A: 16, Req: r}))
	}
	two := scriptOf(api.Step{Kind: api.SBegin, A: 16, Req: api.Request{Kind: api.KSet, Value: long}}, api.Step{Kind: api.SBegin, A: 16, Req: api.Request{Kind: api.KSet, Value: long}})
	isSame(t, "two lines", parses(t, prints(t, two)), two)
}

func TestP18_2ManyLines(t *testing.T) {
	net := api.Ask{What: api.AskNet}
	for _, asks := range []int{0, 1, 2000, 4095} {
		s := asking(clears(4095-asks), slices.Repeat([]api.Ask{net}, asks)...)
		isSame(t, "MaxLines lines", strings.Count(prints(t, s), "\n"), 4096)
		isSame(t, "MaxLines lines", parses(t, prints(t, s)), s)
		s.Steps = append(s.Steps, api.Step{Kind: api.SClear})
		isUnprintable(t, "a step more", s)
		s.Steps = s.Steps[1:]
		s.Asks = append(s.Asks, net)
		isUnprintable(t, "a question more", s)
	}
	isUnprintable(t, "a million steps", scriptOf(clears(1000000)...))
}

// Scripts, many of which no text says, are printed as the second shell prints them.
func TestP18_2AsTheTwinSays(t *testing.T) {
	var said, unsaid int
	for seed := range 3000 {
		d := diceOf(seed)
		s := d.script(d.config(), d.Intn(6), 1)
		for range d.Intn(3) {
			d.noise(&s)
		}
		text, e := shell.Print(s)
		want, wantE := docPrint(s)
		if text != want || e != wantE {
			t.Fatalf("Print(%s): %q, %d; want %q, %d", brief(s), text, e, want, wantE)
		}
		if e == api.OK {
			said++
		} else {
			unsaid++
		}
	}
	if said < 500 || unsaid < 500 {
		t.Errorf("%d scripts, and %d that no text says", said, unsaid)
	}
}
