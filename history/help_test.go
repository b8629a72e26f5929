package history_test

import (
	"fmt"
	"math/rand"
	"regexp"
	"slices"
	"strconv"
	"strings"
	"testing"
	"unsafe"

	"shard/api"
	"shard/history"
	"shard/text"
	"shard/wire"
)

const (
	top      uint64 = 1<<64 - 1
	farPlace        = 1 << 62
)

// What follows says the chapter's rules once more, in other words than the package: it keeps nothing on its way, but looks at all that is ahead again and again.

// docAnswers are the statuses that a reply may have, by the kind of its request.
var docAnswers = map[api.Kind][]api.Status{
	api.KGet:    {api.StOK, api.StMissing},
	api.KSet:    {api.StOK, api.StNoCredit},
	api.KDelete: {api.StOK, api.StMissing},
	api.KCas:    {api.StOK, api.StDiffers, api.StNoCredit},
	api.KScan:   {api.StOK},
}

var docDones = []api.Status{api.StOK, api.StNoCredit, api.StNoBound, api.StNotOwner, api.StSelf, api.StNoHost, api.StMany, api.StQueue}

var docStatuses = []string{"unknown", "ok", "missing", "differs", "nocredit", "nobound", "notowner", "self", "nohost", "many", "queue"}

func docClient(a api.Addr) bool { return a >= 16 && a <= 31 }

// docRequest tells whether a request may be with a number.
func docRequest(r api.Request, seq uint64) bool {
	if seq == 0 || len(r.Value) > 64 || len(r.Old) > 64 || !r.Has && len(r.Old) > 0 {
		return false
	}
	plain := r.Hi == 0 && r.Limit == 0
	switch r.Kind {
	case api.KGet, api.KDelete:
		return plain && !r.Has && len(r.Value) == 0
	case api.KSet:
		return plain && !r.Has
	case api.KCas:
		return plain
	case api.KScan:
		return r.Hi >= r.Key && r.Limit >= 1 && r.Limit <= 16 && !r.Has && len(r.Value) == 0
	}
	return false
}

// docPairs tells whether a scan's reply with this Hi may have these pairs.
func docPairs(hi uint64, pairs []api.Pair) bool {
	for i, p := range pairs {
		if i > 15 || p.Key > hi || len(p.Value) > 64 || i > 0 && p.Key <= pairs[i-1].Key {
			return false
		}
	}
	return true
}

func docEvent(e api.Event) bool {
	if e.Step < 0 || e.Seq == 0 {
		return false
	}
	switch e.Kind {
	case api.EvInvoke:
		return docClient(e.Who) && docRequest(e.Req, e.Seq)
	case api.EvReturn:
		o := e.Out
		said := slices.Contains([]api.Status{api.StOK, api.StMissing, api.StDiffers, api.StNoCredit}, o.Status)
		return docClient(e.Who) && o.Phase == api.PhDone && o.Seq == e.Seq && said && o.Host < 16 && o.Sent > 0 && o.Hops > -1 && len(o.Value) <= 64 && docPairs(o.Hi, o.Pairs)
	case api.EvGiveUp:
		return docClient(e.Who)
	case api.EvShard:
		return e.Who == 32 && e.Host < 16 && e.Shard.Kind == api.KShard && e.Shard.Seq == e.Seq && wire.Check(e.Shard) == api.OK
	case api.EvDone:
		return e.Who == 32 && e.Host < 16 && slices.Contains(docDones, e.Status)
	}
	return false
}

func docAddress(a api.Addr) string {
	switch {
	case a < 16:
		return fmt.Sprintf("h%d", a)
	case a < 32:
		return fmt.Sprintf("c%d", a-16)
	}
	return "admin"
}

func docMessage(r api.Request, seq uint64) string {
	s, _ := wire.Print(messageOf(r, seq))
	return s
}

func docLine(e api.Event) (string, api.Errno) {
	if !docEvent(e) {
		return "", api.ErrEvent
	}
	does := ""
	switch e.Kind {
	case api.EvInvoke:
		does = "begins " + docMessage(e.Req, e.Seq)
	case api.EvReturn:
		var pairs []string
		for _, p := range e.Out.Pairs {
			pairs = append(pairs, fmt.Sprintf("%d:%s", p.Key, text.Quote(string(p.Value))))
		}
		does = fmt.Sprintf("ends seq=%d status=%s host=%d sent=%d hops=%d value=%s hi=%d pairs=[%s]", e.Seq, docStatuses[e.Out.Status], e.Out.Host, e.Out.Sent, e.Out.Hops, text.Quote(string(e.Out.Value)), e.Out.Hi, strings.Join(pairs, ","))
	case api.EvGiveUp:
		does = fmt.Sprintf("gives up seq=%d", e.Seq)
	case api.EvShard:
		s, _ := wire.Print(e.Shard)
		does = fmt.Sprintf("asks h%d %s", e.Host, s)
	case api.EvDone:
		does = fmt.Sprintf("hears h%d done seq=%d status=%s", e.Host, e.Seq, docStatuses[e.Status])
	}
	return fmt.Sprintf("%d: %s %s", e.Step, docAddress(e.Who), does), api.OK
}

// docFits tells whether an answer fits a request.
func docFits(r api.Request, o api.Outcome) bool {
	if !slices.Contains(docAnswers[r.Kind], o.Status) || len(o.Value) > 0 && (r.Kind != api.KGet || o.Status != api.StOK) {
		return false
	}
	if r.Kind != api.KScan {
		return o.Hi == 0 && len(o.Pairs) == 0
	}
	for _, p := range o.Pairs {
		if p.Key < r.Key {
			return false
		}
	}
	return r.Key <= o.Hi && o.Hi <= r.Hi && len(o.Pairs) <= int(r.Limit)
}

// docFollows tells whether an event follows from those ahead of it, which do.
func docFollows(log []api.Event, e api.Event) bool {
	if e.Kind == api.EvShard || e.Kind == api.EvDone {
		return true
	}
	var last, begun *api.Event // of this client
	for i := range log {
		if log[i].Who == e.Who {
			last = &log[i]
			if last.Kind == api.EvInvoke {
				begun = last
			}
		}
	}
	open := last != nil && last.Kind == api.EvInvoke
	switch e.Kind {
	case api.EvInvoke:
		return begun == nil || !open && e.Seq > begun.Seq
	case api.EvReturn:
		return open && e.Seq == last.Seq && docFits(last.Req, e.Out)
	}
	return open && e.Seq == last.Seq
}

func docFold(log []api.Event) ([]api.Call, int, api.Errno) {
	var calls []api.Call
	for i, e := range log {
		switch {
		case !docEvent(e):
			return nil, i, api.ErrEvent
		case !docFollows(log[:i], e):
			return nil, i, api.ErrMatch
		case e.Kind == api.EvInvoke:
			calls = append(calls, docCall(log, i))
		}
	}
	return calls, 0, api.OK
}

// docCall gives the call that an event begins: what the next event of its client says of it.
func docCall(log []api.Event, i int) api.Call {
	c := api.Call{Who: log[i].Who, Seq: log[i].Seq, Req: log[i].Req, Begin: i, End: -1}
	for j := i + 1; j < len(log); j++ {
		if log[j].Who != c.Who {
			continue
		}
		if log[j].Kind == api.EvReturn {
			c.End, c.Status, c.Value = j, log[j].Out.Status, log[j].Out.Value
		}
		break
	}
	return c
}

// docCallMayBe tells whether a call may be by itself.
func docCallMayBe(c api.Call) bool {
	if !docClient(c.Who) || !docRequest(c.Req, c.Seq) || c.Begin < 0 || c.Begin > farPlace {
		return false
	}
	if c.End == -1 {
		return c.Status == 0 && len(c.Value) == 0
	}
	hasValue := c.Req.Kind == api.KGet && c.Status == api.StOK
	return c.End > c.Begin && c.End <= farPlace && slices.Contains(docAnswers[c.Req.Kind], c.Status) && len(c.Value) <= 64 && (hasValue || len(c.Value) == 0)
}

func docCheck(calls []api.Call) (int, api.Errno) {
	for i, c := range calls {
		if !docCallMayBe(c) {
			return i, api.ErrCall
		}
		for _, a := range calls[:i] {
			same := c.Begin == a.Begin || c.Begin == a.End || c.End == a.Begin || c.End == a.End && c.End != -1
			if c.Begin < a.Begin || same || a.Who == c.Who && (a.Seq >= c.Seq || a.End >= c.Begin) {
				return i, api.ErrCall
			}
		}
	}
	return 0, api.OK
}

func docUnfold(calls []api.Call) ([]api.Event, api.Errno) {
	if _, e := docCheck(calls); e != api.OK {
		return nil, e
	}
	var log []api.Event
	last := -1
	for {
		next, which := -1, 0
		for i, c := range calls {
			for _, p := range []int{c.Begin, c.End} {
				if p > last && (next == -1 || p < next) {
					next, which = p, i
				}
			}
		}
		if next == -1 {
			return log, api.OK
		}
		log = append(log, docEvents(calls, which, next)...)
		last = next
		for i := range log {
			log[i].Step = i
		}
	}
}

// docEvents gives the events at a place, which is the Begin or the End of a call.
func docEvents(calls []api.Call, i int, place int) []api.Event {
	c := calls[i]
	if place == c.End {
		out := api.Outcome{Phase: api.PhDone, Seq: c.Seq, Status: c.Status, Value: c.Value, Sent: 1}
		if c.Req.Kind == api.KScan {
			out.Hi = c.Req.Hi
		}
		return []api.Event{{Kind: api.EvReturn, Who: c.Who, Seq: c.Seq, Out: out}}
	}
	begin := api.Event{Kind: api.EvInvoke, Who: c.Who, Seq: c.Seq, Req: c.Req}
	for _, a := range slices.Backward(calls[:i]) {
		if a.Who == c.Who && a.End == -1 {
			return []api.Event{{Kind: api.EvGiveUp, Who: a.Who, Seq: a.Seq}, begin}
		}
		if a.Who == c.Who {
			break
		}
	}
	return []api.Event{begin}
}

func docCallLine(c api.Call) string {
	end, value := "", ""
	if c.End >= 0 {
		end = strconv.Itoa(c.End)
	}
	if c.Req.Kind == api.KGet && c.Status == api.StOK {
		value = text.Quote(string(c.Value)) + " "
	}
	return fmt.Sprintf("c%d %d..%s %s %s%s\n", c.Who-16, c.Begin, end, docStatuses[c.Status], value, docMessage(c.Req, c.Seq))
}

func docPrint(calls []api.Call) (string, api.Errno) {
	if _, e := docCheck(calls); e != api.OK {
		return "", e
	}
	s := ""
	for _, c := range calls {
		s += docCallLine(c)
	}
	return s, api.OK
}

// docForm is what a call's line looks like: who, begin, end, status, value, message.
var docForm = regexp.MustCompile(`^c(0|[1-9]|1[0-5]) (0|[1-9][0-9]{0,18})\.\.(|0|[1-9][0-9]{0,18}) (unknown|ok|missing|differs|nocredit) (?:("(?:[^"\\]|\\[^\n])*") )?((?:get|set|delete|cas|scan) .*)\n$`)

// docReadLine gives the call of a line, if it is one.
func docReadLine(line string) (api.Call, bool) {
	parts := docForm.FindStringSubmatch(line)
	if parts == nil {
		return api.Call{}, false
	}
	who, _ := strconv.Atoi(parts[1])
	begin, err := strconv.ParseInt(parts[2], 10, 64)
	end := int64(-1)
	if err == nil && parts[3] != "" {
		end, err = strconv.ParseInt(parts[3], 10, 64)
	}
	m, _, e := wire.Read(parts[6])
	if err != nil || e != api.OK {
		return api.Call{}, false
	}
	c := api.Call{Who: api.Addr(16 + who), Seq: m.Seq, Begin: int(begin), End: int(end), Status: api.Status(slices.Index(docStatuses, parts[4]))}
	c.Req = api.Request{Kind: m.Kind, Key: m.Key, Hi: m.Hi, Value: m.Value, Old: m.Old, Has: m.Has, Limit: m.Limit}
	if (parts[5] != "") != (c.Req.Kind == api.KGet && c.Status == api.StOK) {
		return api.Call{}, false
	}
	if parts[5] != "" {
		value, _, e := text.Unquote(parts[5])
		if e != api.OK || text.Quote(value) != parts[5] {
			return api.Call{}, false
		}
		c.Value = []byte(value)
	}
	return c, docCallMayBe(c)
}

func docParse(s string) ([]api.Call, int, api.Errno) {
	var calls []api.Call
	for i, line := range strings.SplitAfter(s, "\n") {
		if line == "" {
			break
		}
		c, ok := docReadLine(line)
		if !ok {
			return nil, i + 1, api.ErrHisText
		}
		calls = append(calls, c)
	}
	if i, e := docCheck(calls); e != api.OK {
		return nil, i + 1, e
	}
	return calls, 0, api.OK
}

func docBefore(a, b api.Call) bool { return a.End >= 0 && b.Begin > a.End }

func docOrder(calls []api.Call) ([][2]int, api.Errno) {
	if _, e := docCheck(calls); e != api.OK {
		return nil, e
	}
	var pairs [][2]int
	for i, a := range calls {
		for j, b := range calls {
			between := slices.ContainsFunc(calls, func(c api.Call) bool { return docBefore(a, c) && docBefore(c, b) })
			if docBefore(a, b) && !between {
				pairs = append(pairs, [2]int{i, j})
			}
		}
	}
	return pairs, api.OK
}

// docOpen counts at each place at which a call begins: nowhere else do more become open.
func docOpen(calls []api.Call) int {
	most := 0
	for _, at := range calls {
		open := 0
		for _, c := range calls {
			if c.Begin <= at.Begin && (c.End < 0 || at.Begin <= c.End) {
				open++
			}
		}
		most = max(most, open)
	}
	return most
}

func docCuts(calls []api.Call) []int {
	var cuts []int
	for i := 1; i < len(calls); i++ {
		apart := true
		for _, a := range calls[:i] {
			for _, b := range calls[i:] {
				apart = apart && docBefore(a, b)
			}
		}
		if apart {
			cuts = append(cuts, i)
		}
	}
	return cuts
}

func docOnly(calls []api.Call, key uint64) []int {
	var numbers []int
	for i, c := range calls {
		if c.Req.Kind != api.KScan && c.Req.Key == key {
			numbers = append(numbers, i)
		}
	}
	return numbers
}

func docKeys(calls []api.Call) []uint64 {
	found := map[uint64]bool{}
	for _, c := range calls {
		if len(docOnly([]api.Call{c}, c.Req.Key)) == 1 {
			found[c.Req.Key] = true
		}
	}
	var keys []uint64
	for key := range found {
		keys = append(keys, key)
	}
	slices.Sort(keys)
	return keys
}

// shown is a value as a text, in which an empty list is the same as none.
func shown(v any) string { return fmt.Sprintf("%+v", v) }

func isSame(t *testing.T, what string, got, want any) {
	t.Helper()
	if shown(got) != shown(want) {
		t.Errorf("%s: %+v; want %+v", what, got, want)
	}
}

// isLike holds all that the package says of calls against the document's.
func isLike(t *testing.T, calls []api.Call) {
	t.Helper()
	of := shown(calls)
	i, e := history.Check(calls)
	j, f := docCheck(calls)
	isSame(t, "Check "+of, []any{i, e}, []any{j, f})
	s, e := history.Print(calls)
	r, f := docPrint(calls)
	isSame(t, "Print "+of, []any{s, e}, []any{r, f})
	log, e := history.Unfold(calls)
	want, f := docUnfold(calls)
	isSame(t, "Unfold "+of, []any{log, e}, []any{want, f})
	pairs, e := history.Order(calls)
	order, f := docOrder(calls)
	isSame(t, "Order "+of, []any{pairs, e}, []any{order, f})
	isLikeInTime(t, calls)
}

// isLikeInTime is isLike of what takes any calls.
func isLikeInTime(t *testing.T, calls []api.Call) {
	t.Helper()
	of := shown(calls)
	isSame(t, "Open "+of, history.Open(calls), docOpen(calls))
	isSame(t, "Cuts "+of, history.Cuts(calls), docCuts(calls))
	isSame(t, "Keys "+of, history.Keys(calls), docKeys(calls))
	for _, c := range calls {
		isSame(t, "Only "+of, history.Only(calls, c.Req.Key), docOnly(calls, c.Req.Key))
		isSame(t, "Before "+of, history.Before(calls[0], c), docBefore(calls[0], c))
	}
}

func isFolded(t *testing.T, log []api.Event, want ...api.Call) {
	t.Helper()
	calls, at, e := history.Fold(log)
	if e != api.OK || at != 0 || shown(calls) != shown(want) {
		t.Errorf("Fold(%+v): %+v, %d, %d; want %+v", log, calls, at, e, want)
	}
}

func isUnfoldable(t *testing.T, log []api.Event, place int, want api.Errno) {
	t.Helper()
	if calls, at, e := history.Fold(log); e != want || at != place || len(calls) != 0 {
		t.Errorf("Fold(%+v): %+v, %d, %d; want %d, %d", log, calls, at, e, place, want)
	}
}

func isChecked(t *testing.T, calls []api.Call, number int, want api.Errno) {
	t.Helper()
	if i, e := history.Check(calls); i != number || e != want {
		t.Errorf("Check(%+v): %d, %d; want %d, %d", calls, i, e, number, want)
	}
}

func isParsed(t *testing.T, s string, want ...api.Call) {
	t.Helper()
	calls, at, e := history.Parse(s)
	if e != api.OK || at != 0 || shown(calls) != shown(want) {
		t.Errorf("Parse(%q): %+v, %d, %d; want %+v", s, calls, at, e, want)
	}
}

func isRefused(t *testing.T, s string, number int, want api.Errno) {
	t.Helper()
	if calls, at, e := history.Parse(s); e != want || at != number || len(calls) != 0 {
		t.Errorf("Parse(%q): %+v, %d, %d; want %d, %d", s, calls, at, e, number, want)
	}
}

func messageOf(r api.Request, seq uint64) api.Message {
	m := api.Message{Kind: r.Kind, Seq: seq}
	m.Key, m.Hi, m.Value, m.Old, m.Has, m.Limit = r.Key, r.Hi, r.Value, r.Old, r.Has, r.Limit
	return m
}

func get(key uint64) api.Request { return api.Request{Kind: api.KGet, Key: key} }

func del(key uint64) api.Request { return api.Request{Kind: api.KDelete, Key: key} }

func set(key uint64, value string) api.Request {
	return api.Request{Kind: api.KSet, Key: key, Value: []byte(value)}
}

func cas(key uint64, old, value string) api.Request {
	return api.Request{Kind: api.KCas, Key: key, Has: true, Old: []byte(old), Value: []byte(value)}
}

func create(key uint64, value string) api.Request {
	return api.Request{Kind: api.KCas, Key: key, Value: []byte(value)}
}

func scan(key, hi uint64, limit uint8) api.Request {
	return api.Request{Kind: api.KScan, Key: key, Hi: hi, Limit: limit}
}

// begins, ends and givesUp are the events of the client number n.
func begins(n int, seq uint64, r api.Request) api.Event {
	return api.Event{Kind: api.EvInvoke, Who: api.Addr(16 + n), Seq: seq, Req: r}
}

func ends(n int, seq uint64, status api.Status, value string) api.Event {
	out := api.Outcome{Phase: api.PhDone, Seq: seq, Status: status, Value: []byte(value), Sent: 1}
	return api.Event{Kind: api.EvReturn, Who: api.Addr(16 + n), Seq: seq, Out: out}
}

func scanEnds(n int, seq uint64, hi uint64, keys ...uint64) api.Event {
	e := ends(n, seq, api.StOK, "")
	e.Out.Hi = hi
	for _, key := range keys {
		e.Out.Pairs = append(e.Out.Pairs, api.Pair{Key: key, Value: []byte(fmt.Sprint("v", key))})
	}
	return e
}

func givesUp(n int, seq uint64) api.Event {
	return api.Event{Kind: api.EvGiveUp, Who: api.Addr(16 + n), Seq: seq}
}

func asks(host api.Addr, seq uint64) api.Event {
	m := api.Message{Kind: api.KShard, Seq: seq, Key: 3, Hi: 9, Host: 1, Grant: 4, Bounds: 2}
	return api.Event{Kind: api.EvShard, Who: 32, Seq: seq, Host: host, Shard: m}
}

func hears(host api.Addr, seq uint64, status api.Status) api.Event {
	return api.Event{Kind: api.EvDone, Who: 32, Seq: seq, Host: host, Status: status}
}

// open is a call of the client number n whose outcome is not known.
func open(n int, seq uint64, r api.Request, begin int) api.Call {
	return api.Call{Who: api.Addr(16 + n), Seq: seq, Req: r, Begin: begin, End: -1}
}

func call(n int, seq uint64, r api.Request, begin, end int, status api.Status, value string) api.Call {
	return api.Call{Who: api.Addr(16 + n), Seq: seq, Req: r, Begin: begin, End: end, Status: status, Value: []byte(value)}
}

// done is a call of the client number n that was answered by ok.
func done(n int, seq uint64, r api.Request, begin, end int) api.Call {
	return call(n, seq, r, begin, end, api.StOK, "")
}

// span is a call of which only the places count.
func span(begin, end int) api.Call { return api.Call{Begin: begin, End: end} }

// dice makes things at random, that mostly may be.
type dice struct{ *rand.Rand }

func diceOf(seed int) dice { return dice{rand.New(rand.NewSource(int64(seed)))} }

func (d dice) bytes() []byte {
	b := make([]byte, []int{0, 1, 2, 9, 64}[d.Intn(5)])
	d.Read(b)
	return b
}

func (d dice) key() uint64 {
	if d.Intn(8) == 0 {
		return top - uint64(d.Intn(3))
	}
	return uint64(d.Intn(9))
}

func (d dice) request() api.Request {
	r := api.Request{Kind: api.Kind(1 + d.Intn(5)), Key: d.key()}
	switch r.Kind {
	case api.KSet:
		r.Value = d.bytes()
	case api.KCas:
		r.Value = d.bytes()
		if r.Has = d.Intn(2) == 0; r.Has {
			r.Old = d.bytes()
		}
	case api.KScan:
		r.Hi, r.Limit = max(r.Key, d.key()), uint8(1+d.Intn(16))
	}
	return r
}

// answer gives an answer that fits a request.
func (d dice) answer(r api.Request) api.Outcome {
	all := docAnswers[r.Kind]
	o := api.Outcome{Phase: api.PhDone, Status: all[d.Intn(len(all))], Host: api.Addr(d.Intn(16)), Sent: 1 + d.Intn(9), Hops: d.Intn(3)}
	if r.Kind == api.KGet && o.Status == api.StOK {
		o.Value = d.bytes()
	}
	if r.Kind == api.KScan {
		o.Hi = r.Key + uint64(d.Intn(5))%(min(r.Hi-r.Key, 9)+1)
		for key := r.Key; key <= o.Hi && key >= r.Key && len(o.Pairs) < int(r.Limit); key += uint64(1 + d.Intn(2)) {
			o.Pairs = append(o.Pairs, api.Pair{Key: key, Value: d.bytes()})
		}
	}
	return o
}

// log gives a log that may be, of at most so many events.
func (d dice) log(events int) []api.Event {
	var log []api.Event
	open, number := map[int]api.Request{}, map[int]uint64{}
	for len(log) < events {
		n := d.Intn(2 + d.Intn(15))
		r, isOpen := open[n]
		switch {
		case d.Intn(8) == 0:
			log = append(log, asks(api.Addr(d.Intn(16)), 1+d.Uint64()%9))
		case d.Intn(8) == 0:
			log = append(log, hears(api.Addr(d.Intn(16)), 1+d.Uint64()%9, docDones[d.Intn(len(docDones))]))
		case !isOpen:
			open[n] = d.request()
			number[n] += 1 + uint64(d.Intn(2))
			log = append(log, begins(n, number[n], open[n]))
		case d.Intn(4) == 0:
			log = append(log, givesUp(n, number[n]))
			delete(open, n)
		default:
			e := ends(n, number[n], 0, "")
			e.Out = d.answer(r)
			e.Out.Seq = number[n]
			log = append(log, e)
			delete(open, n)
		}
		log[len(log)-1].Step = d.Intn(9)
	}
	return log
}

// calls gives calls that may be.
func (d dice) calls(events int) []api.Call {
	calls, _, _ := docFold(d.log(events))
	return calls
}

// spoilEvent changes something in an event.
func (d dice) spoilEvent(e *api.Event) {
	some := uint64(d.Intn(4))
	switch d.Intn(16) {
	case 0:
		e.Kind = api.EvKind(d.Intn(7))
	case 1:
		e.Step = d.Intn(3) - 1
	case 2:
		e.Who = api.Addr(14 + d.Intn(20))
	case 3:
		e.Seq += some - 1
	case 4:
		e.Out.Seq += some - 1
	case 5:
		e.Seq, e.Out.Seq, e.Shard.Seq = e.Seq+some, e.Out.Seq+some, e.Shard.Seq+some
	case 6:
		e.Out.Status = api.Status(d.Intn(6))
	case 7:
		e.Out.Hi += some - 1
	case 8:
		e.Out.Value = d.bytes()
	case 9:
		e.Out.Pairs = append(slices.Clone(e.Out.Pairs), api.Pair{Key: d.key(), Value: d.bytes()})
	case 10:
		e.Req.Kind = api.Kind(d.Intn(14))
	case 11:
		e.Req.Hi, e.Req.Limit = d.key(), uint8(d.Intn(18))
	case 12:
		e.Host, e.Out.Host = api.Addr(14+d.Intn(3)), api.Addr(14+d.Intn(3))
	case 13:
		e.Out.Sent, e.Out.Hops, e.Out.Phase = d.Intn(3), d.Intn(3)-1, api.Phase(d.Intn(4))
	case 14:
		e.Status = api.Status(d.Intn(12))
	case 15:
		e.Shard.Kind, e.Shard.Hi = api.Kind(7+d.Intn(3)), d.key()
	}
}

// spoilCall changes something in a call.
func (d dice) spoilCall(c *api.Call) {
	switch d.Intn(10) {
	case 0:
		c.Who = api.Addr(14 + d.Intn(20))
	case 1:
		c.Seq += uint64(d.Intn(4)) - 2
	case 2:
		c.Req = d.request()
	case 3:
		c.Req.Kind = api.Kind(d.Intn(14))
	case 4:
		c.Status = api.Status(d.Intn(6))
	case 5:
		c.Value = d.bytes()
	case 6:
		c.Begin += d.Intn(5) - 2
	case 7:
		c.End += d.Intn(5) - 2
	case 8:
		c.Begin = d.place()
	case 9:
		c.End = d.place()
	}
}

// place gives any number, mostly near an edge.
func (d dice) place() int {
	const most = int(top >> 1)
	edges := []int{-most - 1, -most, -2, -1, 0, 1, 2, 3, 4, 5, farPlace - 1, farPlace, farPlace + 1, most - 1, most}
	return edges[d.Intn(len(edges))]
}

// room is where a list lies, spare room included.
type room struct{ first, behind uintptr }

func roomOf[T any](list []T) []room {
	var one T
	if cap(list) == 0 {
		return nil
	}
	first := uintptr(unsafe.Pointer(unsafe.SliceData(list)))
	return []room{{first, first + uintptr(cap(list))*unsafe.Sizeof(one)}}
}

func roomsOfCalls(calls []api.Call) []room {
	rooms := roomOf(calls)
	for _, c := range calls {
		rooms = slices.Concat(rooms, roomOf(c.Value), roomOf(c.Req.Value), roomOf(c.Req.Old))
	}
	return rooms
}

func roomsOfLog(log []api.Event) []room {
	rooms := roomOf(log)
	for _, e := range log {
		rooms = slices.Concat(rooms, roomOf(e.Req.Value), roomOf(e.Req.Old), roomOf(e.Out.Value), roomOf(e.Out.Pairs), roomOf(e.Shard.Value), roomOf(e.Shard.Pairs))
	}
	return rooms
}

func apart(rooms []room) bool {
	slices.SortFunc(rooms, func(a, b room) int { return int(a.first) - int(b.first) })
	for i := 1; i < len(rooms); i++ {
		if rooms[i-1].behind > rooms[i].first {
			return false
		}
	}
	return true
}

// spoil writes over a list of bytes and its spare room.
func spoil(b []byte) {
	b = b[:cap(b)]
	for i := range b {
		b[i] ^= 0x5a
	}
}
