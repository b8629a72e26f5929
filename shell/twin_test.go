package shell_test

import (
	"fmt"
	"math/big"
	"regexp"
	"slices"
	"strings"

	"shard/api"
	"shard/audit"
	"shard/cluster"
	"shard/frag"
	"shard/history"
	"shard/linear"
	"shard/text"
	"shard/wire"
)

// A second shell, written from the chapter: lines are held against the rows of its table as they stand there.

var docQuestions = strings.Fields("net count owners pairs audit log linear moves table node client hints")

var docStatuses = strings.Fields("none ok missing differs nocredit nobound notowner self nohost many queue")

// caught is what the words of a line say that stand where a row has capital letters, sort by sort.
type caught struct {
	addrs   []api.Addr
	keys    []uint64
	numbers []int
	bytes   []uint8
	values  [][]byte
	names   []string
}

// row is a row of the table.
type row struct {
	line string
	says func(c caught) api.Step
}

// requestRows are what may stand behind a client's address, and behind at and a host's.
var requestRows = []struct {
	line string
	says func(c caught) api.Request
}{
	{"get KEY", func(c caught) api.Request { return api.Request{Kind: api.KGet, Key: c.keys[0]} }},
	{"set KEY VALUE", func(c caught) api.Request {
		return api.Request{Kind: api.KSet, Key: c.keys[0], Value: c.values[0]}
	}},
	{"delete KEY", func(c caught) api.Request { return api.Request{Kind: api.KDelete, Key: c.keys[0]} }},
	{"cas KEY none VALUE", func(c caught) api.Request {
		return api.Request{Kind: api.KCas, Key: c.keys[0], Value: c.values[0]}
	}},
	{"cas KEY VALUE VALUE", func(c caught) api.Request {
		return api.Request{Kind: api.KCas, Key: c.keys[0], Has: true, Old: c.values[0], Value: c.values[1]}
	}},
	{"scan KEY KEY BYTE", func(c caught) api.Request {
		return api.Request{Kind: api.KScan, Key: c.keys[0], Hi: c.keys[1], Limit: c.bytes[0]}
	}},
}

func docRows() []row {
	one := func(kind api.StepKind) func(caught) api.Step {
		return func(c caught) api.Step { return api.Step{Kind: kind, A: c.addrs[0]} }
	}
	counted := func(kind api.StepKind, on bool) func(caught) api.Step {
		return func(c caught) api.Step { return api.Step{Kind: kind, N: c.numbers[0], On: on} }
	}
	linked := func(on bool) func(caught) api.Step {
		return func(c caught) api.Step { return api.Step{Kind: api.SBlock, A: c.addrs[0], B: c.addrs[1], On: on} }
	}
	rows := []row{
		{"ADDR quit", one(api.SGiveUp)},
		{"shard ADDR ADDR KEY KEY NUMBER NUMBER", func(c caught) api.Step {
			return api.Step{Kind: api.SShard, A: c.addrs[0], B: c.addrs[1], Lo: c.keys[0], Hi: c.keys[1], N: c.numbers[0], M: c.numbers[1]}
		}},
		{"deliver NUMBER", counted(api.SDeliver, false)},
		{"copy NUMBER", counted(api.SDeliver, true)},
		{"drop NUMBER", counted(api.SDrop, false)},
		{"inject ADDR ADDR VALUE", func(c caught) api.Step {
			return api.Step{Kind: api.SInject, A: c.addrs[0], B: c.addrs[1], Data: c.values[0]}
		}},
		{"tick ADDR", one(api.STick)},
		{"sync ADDR", one(api.SSync)},
		{"compact ADDR", one(api.SCompact)},
		{"restart ADDR", one(api.SRestart)},
		{"crash ADDR NUMBER", func(c caught) api.Step { return api.Step{Kind: api.SCrash, A: c.addrs[0], N: c.numbers[0]} }},
		{"block ADDR ADDR", linked(true)},
		{"heal ADDR ADDR", linked(false)},
		{"clear", func(caught) api.Step { return api.Step{Kind: api.SClear} }},
		{"settle NUMBER KEY", func(c caught) api.Step { return api.Step{Kind: api.SSettle, N: c.numbers[0], Lo: c.keys[0]} }},
		{"plan NUMBER", counted(api.SPlan, false)},
	}
	for _, r := range requestRows {
		rows = append(rows, row{"ADDR " + r.line, func(c caught) api.Step {
			return api.Step{Kind: api.SBegin, A: c.addrs[0], Req: r.says(c)}
		}}, row{"ADDR at ADDR " + r.line, func(c caught) api.Step {
			return api.Step{Kind: api.SBegin, A: c.addrs[0], On: true, B: c.addrs[1], Req: r.says(c)}
		}})
	}
	return rows
}

var (
	docDecimal = regexp.MustCompile(`^(0|[1-9][0-9]*)$`)
	docHex     = regexp.MustCompile(`^0x[0-9a-fA-F]{1,16}$`)
	docAddress = regexp.MustCompile(`^(?:(admin)|([hc])([0-9]|1[0-5])|(@)([0-9]|[1-9][0-9]|1[0-9][0-9]|2[0-4][0-9]|25[0-5]))$`)
)

func docNumber(s string, most uint64) (uint64, bool) {
	if !docDecimal.MatchString(s) && !docHex.MatchString(s) {
		return 0, false
	}
	n, ok := new(big.Int).SetString(s, 0)
	if !ok || n.Cmp(new(big.Int).SetUint64(most)) > 0 {
		return 0, false
	}
	return n.Uint64(), true
}

func docAddr(s string, names map[string]api.Addr) (api.Addr, bool) {
	m := docAddress.FindStringSubmatch(s)
	if m == nil {
		name, _, e := text.Name(s)
		a, given := names[name]
		return a, e == api.OK && given
	}
	n, _ := docNumber(m[3]+m[5], 255)
	switch m[1] + m[2] + m[4] {
	case "admin":
		return 32, true
	case "c":
		return 16 + api.Addr(n), true
	}
	return api.Addr(n), true
}

// catch holds a line's words against a row.
func catch(words []api.Word, line string, names map[string]api.Addr) (caught, bool) {
	var c caught
	sorts := strings.Fields(line)
	if len(sorts) != len(words) {
		return c, false
	}
	for i, sort := range sorts {
		w := words[i]
		if w.Quoted && sort != "VALUE" {
			return c, false
		}
		ok := true
		switch sort {
		case "ADDR":
			var a api.Addr
			a, ok = docAddr(w.Text, names)
			c.addrs = append(c.addrs, a)
		case "KEY":
			var n uint64
			n, ok = docNumber(w.Text, top)
			c.keys = append(c.keys, n)
		case "NUMBER":
			var n uint64
			n, ok = docNumber(w.Text, 2147483647)
			c.numbers = append(c.numbers, int(n))
		case "BYTE":
			var n uint64
			n, ok = docNumber(w.Text, 255)
			c.bytes = append(c.bytes, uint8(n))
		case "VALUE":
			c.values = append(c.values, []byte(w.Text))
		case "NAME":
			name, _, e := text.Name(w.Text)
			_, given := names[name]
			ok = e == api.OK && !given && !docAddress.MatchString(name)
			c.names = append(c.names, name)
		default:
			ok = w.Text == sort
		}
		if !ok {
			return c, false
		}
	}
	return c, true
}

var docCommands = strings.Fields("name shard deliver copy drop inject tick sync compact restart crash block heal clear settle plan ask")

var docVerbs = strings.Fields("get set delete cas scan quit at")

// docNoCommand tells whether a line is ErrCommand's.
func docNoCommand(words []api.Word, names map[string]api.Addr) bool {
	isOf := func(i int, list []string) bool {
		return i < len(words) && !words[i].Quoted && slices.Contains(list, words[i].Text)
	}
	_, isAddr := docAddr(words[0].Text, names)
	switch {
	case isOf(0, []string{"ask"}):
		return !isOf(1, docQuestions)
	case isOf(0, docCommands):
		return false
	case words[0].Quoted || !isAddr:
		return true
	}
	return !isOf(1, docVerbs)
}

func docParse(s string) (api.Script, int, api.Errno) {
	lines := strings.SplitAfter(s, "\n")
	if lines[len(lines)-1] == "" {
		lines = lines[:len(lines)-1]
	}
	if len(lines) > 4096 {
		return api.Script{}, 4097, api.ErrScript
	}
	var script api.Script
	names := map[string]api.Addr{}
	headed := false
	for i, line := range lines {
		words, _, e := text.Words(strings.TrimSuffix(line, "\n"))
		if e == api.OK && len(words) > 0 {
			if headed {
				e = docLine(words, names, &script)
			} else {
				script.Config, e = docHeader(words)
				headed = true
			}
		}
		if e != api.OK {
			return api.Script{}, i + 1, e
		}
	}
	if !headed {
		return api.Script{}, max(1, len(lines)), api.ErrHeader
	}
	return script, 0, api.OK
}

func docHeader(words []api.Word) (api.Config, api.Errno) {
	if words[0].Quoted || words[0].Text != "cluster" || len(words) != 13 {
		return api.Config{}, api.ErrHeader
	}
	var n [12]int
	for i, name := range strings.Fields("hosts clients pairs bounds queue window group keep mtu net patience tries") {
		before, after, found := strings.Cut(words[i+1].Text, "=")
		x, ok := docNumber(after, 2147483647)
		if words[i+1].Quoted || !found || before != name || !ok {
			return api.Config{}, api.ErrUsage
		}
		n[i] = int(x)
	}
	return api.Config{Hosts: n[0], Clients: n[1], Pairs: n[2], Bounds: n[3], Queue: n[4], Window: n[5], Group: n[6], Keep: n[7], MTU: n[8], Net: n[9], Patience: n[10], Tries: n[11]}, api.OK
}

func docLine(words []api.Word, names map[string]api.Addr, script *api.Script) api.Errno {
	if docNoCommand(words, names) {
		return api.ErrCommand
	}
	if c, ok := catch(words, "name NAME ADDR", names); ok {
		names[c.names[0]] = c.addrs[0]
		return api.OK
	}
	for i, q := range docQuestions {
		line := "ask " + q
		if i >= 8 {
			line += " ADDR"
		}
		if c, ok := catch(words, line, names); ok {
			a := api.Ask{At: len(script.Steps), What: api.AskKind(i + 1)}
			if i >= 8 {
				a.A = c.addrs[0]
			}
			script.Asks = append(script.Asks, a)
			return api.OK
		}
	}
	for _, r := range docRows() {
		// A command's line is no client's, though a name may be the same word.
		isClients := !slices.Contains(docCommands, words[0].Text)
		if c, ok := catch(words, r.line, names); ok && isClients == strings.HasPrefix(r.line, "ADDR") {
			script.Steps = append(script.Steps, r.says(c))
			return api.OK
		}
	}
	return api.ErrUsage
}

func docAddrText(a api.Addr) string {
	switch {
	case a < 16:
		return fmt.Sprintf("h%d", a)
	case a < 32:
		return fmt.Sprintf("c%d", a-16)
	case a == 32:
		return "admin"
	}
	return fmt.Sprintf("@%d", a)
}

// docStepLine gives a step's line and the step that this line says.
func docStepLine(s api.Step) (string, api.Step) {
	a, b := docAddrText(s.A), docAddrText(s.B)
	said := api.Step{Kind: s.Kind}
	line := ""
	switch s.Kind {
	case api.SBegin:
		said.A, said.On = s.A, s.On
		line = a + " "
		if s.On {
			said.B = s.B
			line += "at " + b + " "
		}
		var request string
		request, said.Req = docRequestLine(s.Req)
		line += request
	case api.SGiveUp:
		said.A, line = s.A, a+" quit"
	case api.SShard:
		said.A, said.B, said.Lo, said.Hi, said.N, said.M = s.A, s.B, s.Lo, s.Hi, s.N, s.M
		line = fmt.Sprintf("shard %s %s %d %d %d %d", a, b, s.Lo, s.Hi, s.N, s.M)
	case api.SDeliver:
		said.N, said.On = s.N, s.On
		line = fmt.Sprintf("%s %d", map[bool]string{false: "deliver", true: "copy"}[s.On], s.N)
	case api.SDrop:
		said.N, line = s.N, fmt.Sprintf("drop %d", s.N)
	case api.SInject:
		said.A, said.B, said.Data = s.A, s.B, s.Data
		line = "inject " + a + " " + b + " " + text.Quote(string(s.Data))
	case api.STick, api.SSync, api.SCompact, api.SRestart:
		said.A = s.A
		line = map[api.StepKind]string{api.STick: "tick ", api.SSync: "sync ", api.SCompact: "compact ", api.SRestart: "restart "}[s.Kind] + a
	case api.SCrash:
		said.A, said.N = s.A, s.N
		line = fmt.Sprintf("crash %s %d", a, s.N)
	case api.SBlock:
		said.A, said.B, said.On = s.A, s.B, s.On
		line = map[bool]string{false: "heal ", true: "block "}[s.On] + a + " " + b
	case api.SClear:
		line = "clear"
	case api.SSettle:
		said.N, said.Lo = s.N, s.Lo
		line = fmt.Sprintf("settle %d %d", s.N, s.Lo)
	case api.SPlan:
		said.N, line = s.N, fmt.Sprintf("plan %d", s.N)
	}
	return line, said
}

func docRequestLine(r api.Request) (string, api.Request) {
	said := api.Request{Kind: r.Kind, Key: r.Key}
	switch r.Kind {
	case api.KGet:
		return fmt.Sprintf("get %d", r.Key), said
	case api.KSet:
		said.Value = r.Value
		return fmt.Sprintf("set %d %s", r.Key, text.Quote(string(r.Value))), said
	case api.KDelete:
		return fmt.Sprintf("delete %d", r.Key), said
	case api.KCas:
		said.Value, said.Has = r.Value, r.Has
		old := "none"
		if r.Has {
			said.Old, old = r.Old, text.Quote(string(r.Old))
		}
		return fmt.Sprintf("cas %d %s %s", r.Key, old, text.Quote(string(r.Value))), said
	case api.KScan:
		said.Hi, said.Limit = r.Hi, r.Limit
		return fmt.Sprintf("scan %d %d %d", r.Key, r.Hi, r.Limit), said
	}
	return "", said
}

func docIsNumber(n int) bool { return n >= 0 && n <= 2147483647 }

// docAsks tells whether the questions' places and whats are as Print and Play want them.
func docAsks(s api.Script) bool {
	return slices.IsSortedFunc(s.Asks, func(a, b api.Ask) int { return a.At - b.At }) &&
		!slices.ContainsFunc(s.Asks, func(a api.Ask) bool { return a.At < 0 || a.At > len(s.Steps) || a.What < 1 || a.What > 12 })
}

func docAskLine(a api.Ask) string {
	line := "ask " + docQuestions[a.What-1]
	if a.What >= api.AskTable {
		line += " " + docAddrText(a.A)
	}
	return line
}

// docItems gives, for each step and behind the last one, the questions that are asked there, and the step's number (none: -1).
func docItems(s api.Script, ask func(api.Ask), step func(int)) {
	for i := range len(s.Steps) + 1 {
		for _, a := range s.Asks {
			if a.At == i {
				ask(a)
			}
		}
		if i < len(s.Steps) {
			step(i)
		}
	}
}

func docPrint(s api.Script) (string, api.Errno) {
	c := s.Config
	may := docAsks(s)
	for _, n := range []int{c.Hosts, c.Clients, c.Pairs, c.Bounds, c.Queue, c.Window, c.Group, c.Keep, c.MTU, c.Net, c.Patience, c.Tries} {
		may = may && docIsNumber(n)
	}
	lines := []string{strings.TrimSuffix(headOf(c), "\n")}
	if !may {
		return "", api.ErrScript
	}
	docItems(s, func(a api.Ask) {
		may = may && (a.What >= api.AskTable || a.A == 0)
		lines = append(lines, docAskLine(a))
	}, func(i int) {
		line, said := docStepLine(s.Steps[i])
		may = may && line != "" && same(said, s.Steps[i]) && docIsNumber(said.N) && docIsNumber(said.M)
		may = may && (said.Kind != api.SBegin || said.Req.Kind >= api.KGet && said.Req.Kind <= api.KScan)
		lines = append(lines, line)
	})
	may = may && len(lines) <= 4096 && !slices.ContainsFunc(lines, func(s string) bool { return len(s) > 4096 })
	if !may {
		return "", api.ErrScript
	}
	return lined(lines...), api.OK
}

// docPlay plays a script.
func docPlay(s api.Script) (string, api.Errno) {
	if !docAsks(s) {
		return "", api.ErrScript
	}
	k, e := cluster.New(s.Config)
	if e != api.OK {
		return "", e
	}
	var lines []string
	docItems(s, func(a api.Ask) {
		lines = append(lines, docAskLine(a))
		for _, line := range docAnswer(k, a) {
			lines = append(lines, "  "+line)
		}
	}, func(i int) {
		a := k.Step(s.Steps[i])
		said := "ok"
		if a.Err != api.OK {
			said = fmt.Sprintf("errno %d", int(a.Err))
		}
		lines = append(lines, fmt.Sprintf("%d: %s, sent %d", i, said, a.Sent))
		lines = append(lines, docEvents(a.Events, "  ")...)
	})
	return lined(lines...), api.OK
}

func docEvents(events []api.Event, ahead string) []string {
	var lines []string
	for _, e := range events {
		line, err := history.Line(e)
		if err != api.OK {
			panic(err)
		}
		lines = append(lines, ahead+line)
	}
	return lines
}

// docTable lays rows out.
func docTable(rows [][]string) []string {
	if len(rows) > 256 {
		return []string{"errno 18"}
	}
	var widths [16]int
	for _, r := range rows {
		for j, cell := range r {
			widths[j] = max(widths[j], text.Width(cell))
		}
	}
	var lines []string
	for _, r := range rows {
		line := ""
		for j, cell := range r {
			line += cell
			if j < len(r)-1 {
				line += strings.Repeat(" ", widths[j]-text.Width(cell)+2)
			}
		}
		lines = append(lines, line)
	}
	return lines
}

func docAnswer(k *cluster.Cluster, a api.Ask) []string {
	lines, e := docLines(k, a)
	switch {
	case e != api.OK:
		return []string{fmt.Sprintf("errno %d", int(e))}
	case len(lines) == 0:
		return []string{"nothing"}
	}
	return lines
}

func docLines(k *cluster.Cluster, a api.Ask) ([]string, api.Errno) {
	p := k.Picture()
	var rows [][]string
	hex := func(n uint64) string { return fmt.Sprintf("0x%016x", n) }
	segments := func(list []api.Segment) []string {
		for _, s := range list {
			rows = append(rows, []string{hex(s.Lo), hex(s.Hi), docAddrText(s.Host)})
		}
		return docTable(rows)
	}
	switch a.What {
	case api.AskNet:
		return docNet(k.Net()), api.OK
	case api.AskCount:
		n := k.Count()
		return []string{fmt.Sprintf("sent %d, injected %d, delivered %d, copied %d, dropped %d, lost %d, barred %d", n.Sent, n.Injected, n.Delivered, n.Copied, n.Dropped, n.Lost, n.Barred)}, api.OK
	case api.AskOwners:
		list, e := audit.Owners(p)
		for _, h := range list {
			rows = append(rows, []string{hex(h.Lo), hex(h.Hi), docClaims("h", h.Hosts), docClaims("f", h.Flights)})
		}
		return docTable(rows), e
	case api.AskPairs:
		list, e := audit.Union(p)
		for _, x := range list {
			rows = append(rows, []string{fmt.Sprint(x.Key), text.Quote(string(x.Value))})
		}
		return docTable(rows), e
	case api.AskAudit:
		list, e := audit.Check(p, 1)
		for _, f := range list {
			rows = append(rows, []string{strings.Fields("0 none two stray pairs bounds below payload")[f.Kind], hex(f.Lo), hex(f.Hi), docAddrText(f.Host)})
		}
		return docTable(rows), e
	case api.AskLog:
		return docEvents(k.Events(), ""), api.OK
	case api.AskLinear:
		return docVerdict(k.Events())
	case api.AskMoves:
		list, e := k.Plan()
		for _, m := range list {
			rows = append(rows, []string{docAddrText(m.From), docAddrText(m.To), hex(m.Lo), hex(m.Hi), fmt.Sprint(m.Pairs)})
		}
		return docTable(rows), e
	case api.AskTable:
		if int(a.A) >= len(p.Hosts) {
			return nil, api.ErrArg
		}
		return segments(p.Hosts[a.A].Table), api.OK
	case api.AskHints:
		list, e := k.Hints(a.A)
		return segments(list), e
	case api.AskNode:
		n, e := k.Node(a.A)
		if e != api.OK {
			return nil, e
		}
		j, h := n.Journal, p.Hosts[a.A]
		return []string{
			fmt.Sprintf("%s, epoch %d, held %d, partial %d, slot %d, records %d, bytes %d, waiting %d, unsynced %d", map[bool]string{false: "down", true: "up"}[n.Up], n.Epoch, n.Held, n.Partial, j.Slot, j.Records, j.Bytes, j.Waiting, j.Unsynced),
			fmt.Sprintf("free %d, spare %d, pairs %d, sessions %d, segments %d", h.Free, h.Spare, len(h.Pairs), len(h.Sessions), len(h.Table)),
		}, api.OK
	}
	o, e := k.Client(a.A)
	return []string{docOutcome(o)}, e
}

func docClaims[T api.Addr | int](mark string, list []T) string {
	if len(list) == 0 {
		return "-"
	}
	s := ""
	for _, n := range list {
		s += fmt.Sprintf(" %s%d", mark, n)
	}
	return s[1:]
}

func docNet(list []api.Datagram) []string {
	var lines []string
	for i, d := range list {
		line := fmt.Sprintf("%d: %s > %s, ", i, docAddrText(d.From), docAddrText(d.To))
		f, e := frag.Look(d.Data)
		if e != api.OK {
			lines = append(lines, line+fmt.Sprintf("%d bytes", len(d.Data)))
			continue
		}
		line += fmt.Sprintf("packet %d, part %d of %d", f.Id, f.Index+1, f.Count)
		if m, _, e := wire.Parse(f.Part); e == api.OK && f.Count == 1 {
			s, _ := wire.Print(m)
			line += ", " + s
		}
		lines = append(lines, line)
	}
	return lines
}

func docVerdict(events []api.Event) ([]string, api.Errno) {
	calls, _, e := history.Fold(events)
	if e != api.OK {
		return nil, e
	}
	v, e := linear.Check(calls, 1)
	if e != api.OK {
		return nil, e
	}
	if !v.Ok {
		return []string{fmt.Sprintf("not linearizable at key %d", v.Key)}, api.OK
	}
	order := "order"
	for _, n := range v.Order {
		order += fmt.Sprintf(" %d", n)
	}
	return []string{"linearizable", order}, api.OK
}

func docOutcome(o api.Outcome) string {
	if o.Phase == api.PhIdle {
		return "idle"
	}
	line := fmt.Sprintf("%s, seq %d, host %s, sent %d, hops %d", []string{"", "waiting", "done", "unknown"}[o.Phase], o.Seq, docAddrText(o.Host), o.Sent, o.Hops)
	if o.Phase != api.PhDone {
		return line
	}
	line += ", status " + docStatuses[o.Status]
	if len(o.Value) > 0 {
		line += ", value " + text.Quote(string(o.Value))
	}
	for _, p := range o.Pairs {
		line += fmt.Sprintf(", %d=%s", p.Key, text.Quote(string(p.Value)))
	}
	return line
}
