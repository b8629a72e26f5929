package shell_test

import (
	"fmt"
	"math/rand"
	"slices"
	"strings"

	"shard/api"
	"shard/cluster"
	"shard/text"
)

// dice makes things at random.
type dice struct{ *rand.Rand }

func diceOf(seed int) dice { return dice{rand.New(rand.NewSource(int64(seed)))} }

// often is true but for one time in n.
func (d dice) often(n int) bool { return d.Intn(n) > 0 }

// pick gives one of some things.
func pick[T any](d dice, list ...T) T { return list[d.Intn(len(list))] }

func (d dice) config() api.Config {
	c := api.Config{Hosts: 1 + d.Intn(5), Clients: d.Intn(5), Pairs: d.Intn(7), Bounds: 2 + d.Intn(12), Queue: 1 + d.Intn(3), Group: 1 + d.Intn(9), Keep: 1 + d.Intn(8), Patience: 1 + d.Intn(3), Tries: 1 + d.Intn(4)}
	c.Window = 1 + d.Intn(c.Queue)
	if d.Intn(3) == 0 {
		c.Hosts, c.Clients, c.Pairs = 2, 4, 40
	}
	c.MTU = pick(d, 64, 100, 256, 1024)
	c.Net = pick(d, 1+d.Intn(8), 64, 4096)
	return c
}

func (d dice) anyone() api.Addr {
	return pick[api.Addr](d, 0, 1, 2, 3, 15, 16, 17, 19, 31, 32, 33, 200, 254, 255)
}

// host gives a host's address, mostly one that is there.
func (d dice) host(c api.Config) api.Addr {
	if d.often(12) {
		return api.Addr(d.Intn(c.Hosts))
	}
	return d.anyone()
}

func (d dice) client(c api.Config) api.Addr {
	if c.Clients > 0 && d.often(12) {
		return 16 + api.Addr(d.Intn(c.Clients))
	}
	return d.anyone()
}

// key gives one of few keys, near either end.
func (d dice) key() uint64 {
	key := uint64(pick(d, 1, d.Intn(12)))
	if d.Intn(4) == 0 {
		return top - key
	}
	return key
}

// count gives a number, mostly a small one.
func (d dice) count(most int) int {
	if d.often(10) {
		return d.Intn(most + 1)
	}
	return pick(d, 0, 64, 65, 65535, 65536, 1<<31-1)
}

func (d dice) value() []byte {
	return []byte(pick(d, "", "a", "b", "none", "a b", "#", "\"\\\n", "\xff\x00", "\u65e5\u672c", "e\u0301", strings.Repeat("\x7f", 64), strings.Repeat("c", 65)))
}

// request gives a request, and no fields but those that its line says.
func (d dice) request() api.Request {
	r := api.Request{Kind: api.Kind(1 + d.Intn(5)), Key: d.key()}
	switch r.Kind {
	case api.KSet:
		r.Value = d.value()
	case api.KCas:
		r.Value, r.Has = d.value(), d.Intn(2) == 0
		if r.Has {
			r.Old = d.value()
		}
	case api.KScan:
		r.Hi, r.Limit = d.key(), uint8(d.Intn(5))
		if d.often(5) {
			r.Key, r.Hi = min(r.Key, r.Hi), max(r.Key, r.Hi)
		}
	}
	return r
}

// place gives a place of a datagram in the network, mostly one that is there.
func (d dice) place(k *cluster.Cluster) int {
	if n := len(k.Net()); n > 0 && d.often(15) {
		return d.Intn(n)
	}
	return d.count(20)
}

// data gives what a stranger may throw in: nonsense, or a datagram that is there, changed or not.
func (d dice) data(net []api.Datagram) []byte {
	if len(net) == 0 || d.Intn(3) == 0 {
		return pick(d, nil, []byte("xyz"), []byte{0xd6, 1}, slices.Repeat([]byte("x"), 1024))
	}
	b := slices.Clone(pick(d, net...).Data)
	if len(b) > 600 { // its line might be too long
		return b[:600]
	}
	if d.Intn(3) == 0 {
		b[d.Intn(len(b))] ^= 1 << d.Intn(8)
	}
	return b
}

// shard gives a Shard, mostly of a range that its host owns.
func (d dice) shard(k *cluster.Cluster, c api.Config) api.Step {
	s := api.Step{Kind: api.SShard, A: d.host(c), B: d.host(c), Lo: d.key(), Hi: d.key(), N: d.count(1), M: d.count(1)}
	for _, h := range k.Picture().Hosts {
		for _, g := range h.Table {
			if g.Host == h.Self && d.Intn(3) == 0 {
				s.A, s.Lo, s.Hi = g.Host, g.Lo, g.Hi
			}
		}
	}
	if x := d.key(); s.Lo <= x && x <= s.Hi {
		s.Hi = x
	}
	return s
}

// kinds are the kinds of steps, each as often as it is to come.
func kinds() []api.StepKind {
	weights := map[api.StepKind]int{api.SBegin: 36, api.SGiveUp: 4, api.SShard: 16, api.SDeliver: 90, api.SDrop: 4, api.SInject: 6, api.STick: 14, api.SSync: 8, api.SCompact: 4, api.SCrash: 4, api.SRestart: 12, api.SBlock: 4, api.SClear: 1, api.SSettle: 8, api.SPlan: 4}
	var list []api.StepKind
	for kind := range api.SPlan + 1 {
		list = append(list, slices.Repeat([]api.StepKind{kind}, weights[kind])...)
	}
	return list
}

// step gives a step that may come next, with what its line says alone.
func (d dice) step(k *cluster.Cluster, c api.Config) api.Step {
	s := api.Step{Kind: pick(d, kinds()...)}
	switch s.Kind {
	case api.SBegin:
		s.A, s.Req, s.On = d.client(c), d.request(), d.Intn(3) == 0
		if s.On {
			s.B = d.host(c)
		}
	case api.SGiveUp:
		s.A = d.client(c)
	case api.SShard:
		return d.shard(k, c)
	case api.SDeliver:
		s.N, s.On = d.place(k), d.Intn(5) == 0
	case api.SDrop:
		s.N = d.place(k)
	case api.SInject:
		s.A, s.B, s.Data = pick(d, 33, 77, 255, d.anyone()), d.anyone(), d.data(k.Net())
	case api.STick:
		s.A = pick(d, d.host(c), d.client(c))
	case api.SSync, api.SCompact, api.SRestart:
		s.A = d.host(c)
	case api.SCrash:
		s.A, s.N = d.host(c), d.count(300)
	case api.SBlock:
		s.A, s.B, s.On = d.anyone(), d.anyone(), d.Intn(4) == 0
	case api.SSettle:
		s.N, s.Lo = d.count(4), d.Uint64()
	case api.SPlan:
		s.N = d.count(3)
	}
	return s
}

func (d dice) ask(at int, c api.Config) api.Ask {
	a := api.Ask{At: at, What: api.AskKind(pick(d, 1+d.Intn(12), 1+d.Intn(12), int(api.AskClient)))}
	switch a.What {
	case api.AskTable, api.AskNode:
		a.A = d.host(c)
	case api.AskClient, api.AskHints:
		a.A = d.client(c)
	}
	return a
}

// script gives a script that a text says, of so many steps, with about so many questions ahead of each.
func (d dice) script(c api.Config, steps, asks int) api.Script {
	s := api.Script{Config: c}
	k, _ := cluster.New(c)
	for i := range steps + 1 {
		for range d.Intn(2*asks + 1) {
			s.Asks = append(s.Asks, d.ask(i, c))
		}
		if i < steps {
			s.Steps = append(s.Steps, d.step(k, c))
			k.Step(s.Steps[i])
		}
	}
	return s
}

// noise changes a script so that, mostly, no text says it.
func (d dice) noise(s *api.Script) {
	number := pick(d, -1, 0, 1, 1<<31-1, 1<<31, -1<<63, 1<<63-1)
	if i := d.Intn(len(s.Steps) + len(s.Asks) + 1); i == 0 {
		c := &s.Config
		*pick(d, &c.Hosts, &c.Clients, &c.Pairs, &c.Bounds, &c.Queue, &c.Window, &c.Group, &c.Keep, &c.MTU, &c.Net, &c.Patience, &c.Tries) = number
	} else if i <= len(s.Steps) {
		d.noiseInStep(&s.Steps[i-1], number)
	} else {
		a := &s.Asks[i-1-len(s.Steps)]
		*a = pick(d, api.Ask{At: number, What: a.What, A: a.A}, api.Ask{At: a.At, What: api.AskKind(d.Intn(15)), A: a.A}, api.Ask{At: a.At, What: a.What, A: d.anyone()}, api.Ask{At: a.At + pick(d, -1, 1), What: a.What, A: a.A})
	}
}

func (d dice) noiseInStep(s *api.Step, number int) {
	switch d.Intn(15) {
	case 0:
		s.Kind = api.StepKind(d.Intn(18))
	case 1:
		s.A = d.anyone()
	case 2:
		s.B = d.anyone()
	case 3:
		s.N = number
	case 4:
		s.M = number
	case 5:
		s.On = !s.On
	case 6:
		s.Lo = d.key()
	case 7:
		s.Hi = d.key()
	case 8:
		s.Data = d.value()
	case 9:
		s.Req.Kind = api.Kind(d.Intn(14))
	case 10:
		s.Req.Key = d.key()
	case 11:
		s.Req.Hi = d.key()
	case 12:
		s.Req.Value = d.value()
	case 13:
		s.Req.Old, s.Req.Has = d.value(), d.Intn(2) == 0
	case 14:
		s.Req.Limit = uint8(d.Intn(256))
	}
}

// word gives a word as it stands in a line, of one of a row's sorts.
func (d dice) word(sort string) string {
	number := func(edges ...string) string {
		return pick(d, append(edges, "0", "1", "7", fmt.Sprint(d.Intn(300)), fmt.Sprintf("0x%x", d.Intn(300)), "0x00F")...)
	}
	switch sort {
	case "ADDR":
		return pick(d, "h0", "h1", "h15", "c0", "c15", "admin", "@0", "@255", fmt.Sprintf("@%d", d.Intn(256)), d.name(), d.name(), d.name(), d.name())
	case "KEY":
		return number("18446744073709551615", "0xffffffffffffffff")
	case "NUMBER":
		return number("2147483647", "0x7fffffff")
	case "BYTE":
		return number("255", "0xff")
	case "VALUE":
		return pick(d, "a", "none", "a#b", "\u65e5", text.Quote(string(d.value())), `"\x41\u{e9}"`)
	case "NAME":
		return d.name()
	}
	return sort
}

// name gives one of few names, among them words that stand elsewhere too.
func (d dice) name() string {
	return pick(d, "a", "A", "\u00c4lpha", "\u00e4lpha", "tick", "Tick", "get", "at", "ask", "none", "cluster", "h16", "h007", "b-2", "\u039b\u03a3", "\u03bb\u03c2")
}

// odd gives a word that may stand nowhere, or only elsewhere.
func (d dice) odd() string {
	return pick(d, "h16", "H0", "h", "h00", "h0x1", "c16", "C1", "c", "@256", "@", "@00", "@-1", "Admin", "ADMIN", "x", "-1", "01", "0x", "0X1", "1e3", "256", "2147483648", "18446744073709551616", "0x10000000000000000", `""`, `"h0"`, `"1"`, `"get"`, "none", "at", "quit", "net", "table", "put", "clear", "\xff", `"`, `a"`, "\u00a0", "#", "hosts=1")
}

// line gives a line of a script, mostly one that may be.
func (d dice) line() string {
	rows := docRows()
	row := pick(d, append([]string{"name NAME ADDR", "name NAME ADDR", "ask " + pick(d, docQuestions[:8]...), "ask " + pick(d, docQuestions[8:]...) + " ADDR", "ask " + pick(d, docQuestions...)}, pick(d, rows...).line, pick(d, rows...).line, pick(d, rows...).line)...)
	var words []string
	for _, sort := range strings.Fields(row) {
		words = append(words, d.word(sort))
	}
	if d.Intn(4) == 0 {
		i := d.Intn(len(words) + 1)
		switch d.Intn(4) {
		case 0:
			words = slices.Insert(words, i, pick(d, d.odd(), d.word(pick(d, "ADDR", "KEY", "VALUE"))))
		case 1:
			words = words[:i]
		case 2:
			words[max(0, i-1)] = d.odd()
		case 3:
			words[max(0, i-1)] = `"` + words[max(0, i-1)] + `"`
		}
	}
	return d.spread(words)
}

// spread puts words into a line, with blanks and a remark here and there.
func (d dice) spread(words []string) string {
	line := pick(d, "", "", "", " ", "\t ")
	for _, w := range words {
		line += w + pick(d, " ", " ", " ", "\t", "  ")
	}
	return line + pick(d, "", "", "", "# why", "#\xff\"")
}

// text gives a text, mostly one that is a script.
func (d dice) text(lines int) string {
	s := strings.Repeat(pick(d, "", "\n", "# first\n", " \t\n"), d.Intn(3))
	first := strings.Fields(headOf(d.config()))
	switch d.Intn(12) {
	case 0:
		first[d.Intn(13)] = pick(d, d.odd(), "hosts=1", "tries=0x", "mtu=99999999999", `"net=4"`, "keep=0x10")
	case 1:
		first = slices.Delete(first, 12, 13)
	case 2:
		first = append(first, d.odd())
	}
	s += d.spread(first) + "\n"
	for range d.Intn(lines + 1) {
		s += pick(d, d.line(), d.line(), d.line(), d.line(), "", "# remark") + "\n"
	}
	if d.Intn(3) == 0 {
		s = strings.TrimSuffix(s, "\n")
	}
	return s
}
