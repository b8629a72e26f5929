package history_test

import (
	"strings"
	"testing"

	"shard/api"
	"shard/history"
)

// wellKnown are calls of all sorts, and their text.
var wellKnown = []struct {
	call api.Call
	line string
}{
	{open(0, 1, set(5, "v"), 0), `c0 0.. unknown set seq=1 key=5 value="v"`},
	{call(1, 1, get(5), 1, 2, api.StOK, "v"), `c1 1..2 ok "v" get seq=1 key=5`},
	{open(1, 2, del(5), 3), `c1 3.. unknown delete seq=2 key=5`},
	{call(15, 3, get(top), 4, 90, api.StMissing, ""), `c15 4..90 missing get seq=3 key=18446744073709551615`},
	{call(2, 1, get(5), 5, 91, api.StOK, ""), `c2 5..91 ok "" get seq=1 key=5`},
	{call(3, 1, get(5), 6, 92, api.StOK, "a \"\n\\ \xff"), `c3 6..92 ok "a \"\n\\ \xff" get seq=1 key=5`},
	{call(4, top, set(5, " ok \n"), 7, 93, api.StNoCredit, ""), `c4 7..93 nocredit set seq=18446744073709551615 key=5 value=" ok \n"`},
	{call(5, 1, cas(5, "\"a\" ", ""), 8, 94, api.StDiffers, ""), `c5 8..94 differs cas seq=1 key=5 old="\"a\" " value=""`},
	{call(6, 1, create(5, "\" get seq=1 key=5"), 9, 95, api.StOK, ""), `c6 9..95 ok cas seq=1 key=5 old=none value="\" get seq=1 key=5"`},
	{done(7, 1, scan(5, 9, 16), 10, 96), `c7 10..96 ok scan seq=1 key=5 hi=9 limit=16`},
	{open(8, 1, scan(5, 9, 1), 11), `c8 11.. unknown scan seq=1 key=5 hi=9 limit=1`},
	{call(10, 1, del(0), farPlace-2, farPlace-1, api.StMissing, ""), `c10 4611686018427387902..4611686018427387903 missing delete seq=1 key=0`},
	{open(11, 1, get(5), farPlace), `c11 4611686018427387904.. unknown get seq=1 key=5`},
}

func TestP13_5TextOfCalls(t *testing.T) {
	var calls []api.Call
	whole := ""
	for _, k := range wellKnown {
		if s, e := history.Print([]api.Call{k.call}); s != k.line+"\n" || e != api.OK {
			t.Errorf("Print(%+v): %q, %d; want %q", k.call, s, e, k.line)
		}
		calls, whole = append(calls, k.call), whole+k.line+"\n"
	}
	if s, e := history.Print(calls); s != whole || e != api.OK {
		t.Errorf("Print: %q, %d; want %q", s, e, whole)
	}
	isLike(t, calls)
	far := []api.Call{done(0, 1, del(0), 0, farPlace)}
	if s, e := history.Print(far); s != "c0 0..4611686018427387904 ok delete seq=1 key=0\n" || e != api.OK {
		t.Errorf("Print: %q, %d", s, e)
	}
	isLike(t, far)
	for _, none := range [][]api.Call{nil, {}} {
		if s, e := history.Print(none); s != "" || e != api.OK {
			t.Errorf("Print: %q, %d", s, e)
		}
	}
}

func TestP13_5CallsThatMayNotBe(t *testing.T) {
	fine := done(0, 1, del(5), 0, 1)
	for _, calls := range [][]api.Call{{{}}, {done(0, 1, del(5), 3, 2)}, {fine, fine}, {fine, {}}, {call(0, 1, get(5), 0, 1, 99, "")}} {
		if s, e := history.Print(calls); s != "" || e != api.ErrCall {
			t.Errorf("Print(%+v): %q, %d", calls, s, e)
		}
	}
}

func TestP13_6CallsOfTexts(t *testing.T) {
	isParsed(t, "")
	var calls []api.Call
	whole := ""
	for _, k := range wellKnown {
		isParsed(t, k.line+"\n", k.call)
		calls, whole = append(calls, k.call), whole+k.line+"\n"
	}
	isParsed(t, whole, calls...)
	isParsed(t, "c0 0..4611686018427387904 ok delete seq=1 key=0\n", done(0, 1, del(0), 0, farPlace))
}

func TestP13_6LinesAtFault(t *testing.T) {
	for _, line := range []string{
		``, ` `, `c0`, `c0 0..1`, `c0 0..1 ok`, `c0 0..1 ok `, `x`,
		// who
		`c16 0..1 ok delete seq=1 key=5`, `c00 0..1 ok delete seq=1 key=5`, `c01 0..1 ok delete seq=1 key=5`, `C0 0..1 ok delete seq=1 key=5`, `c 0..1 ok delete seq=1 key=5`,
		`h0 0..1 ok delete seq=1 key=5`, `admin 0..1 ok delete seq=1 key=5`, `@16 0..1 ok delete seq=1 key=5`, ` 0..1 ok delete seq=1 key=5`, `0..1 ok delete seq=1 key=5`, `c-1 0..1 ok delete seq=1 key=5`, `c256 0..1 ok delete seq=1 key=5`,
		// places
		`c0 00..1 ok delete seq=1 key=5`, `c0 0..01 ok delete seq=1 key=5`, `c0 0x0..1 ok delete seq=1 key=5`, `c0 0..0x1 ok delete seq=1 key=5`, `c0 -0..1 ok delete seq=1 key=5`, `c0 +0..1 ok delete seq=1 key=5`, `c0 0.. 1 ok delete seq=1 key=5`,
		`c0 0.1 ok delete seq=1 key=5`, `c0 0...1 ok delete seq=1 key=5`, `c0 ..1 ok delete seq=1 key=5`, `c0 0 ok delete seq=1 key=5`, `c0 0..1..2 ok delete seq=1 key=5`, `c0 0..1.. ok delete seq=1 key=5`, `c0 01 ok delete seq=1 key=5`,
		`c0 1..1 ok delete seq=1 key=5`, `c0 2..1 ok delete seq=1 key=5`, `c0 0..-1 unknown delete seq=1 key=5`, `c0 -1.. unknown delete seq=1 key=5`, `c0 0 unknown delete seq=1 key=5`, `c0 .. unknown delete seq=1 key=5`, `c0  unknown delete seq=1 key=5`,
		`c0 0..4611686018427387905 ok delete seq=1 key=5`, `c0 4611686018427387905.. unknown delete seq=1 key=5`, `c0 0..18446744073709551615 unknown delete seq=1 key=5`, `c0 0..18446744073709551616 ok delete seq=1 key=5`, `c0 18446744073709551616.. unknown delete seq=1 key=5`, `c0 0..18446744073709551617 ok delete seq=1 key=5`,
		// status
		`c0 0..1 unknown delete seq=1 key=5`, `c0 0.. ok delete seq=1 key=5`, `c0 0..  delete seq=1 key=5`, `c0 0.. delete seq=1 key=5`, `c0 0.. none delete seq=1 key=5`, `c0 0..1 OK delete seq=1 key=5`, `c0 0..1 differs delete seq=1 key=5`, `c0 0..1 queue delete seq=1 key=5`, `c0 0..1 nobound set seq=1 key=5 value="v"`, `c0 0..1 missing set seq=1 key=5 value="v"`,
		// value
		`c0 0..1 ok get seq=1 key=5`, `c0 0..1 missing "" get seq=1 key=5`, `c0 0..1 missing "v" get seq=1 key=5`, `c0 0.. unknown "v" get seq=1 key=5`, `c0 0.. unknown "" get seq=1 key=5`, `c0 0..1 ok "" delete seq=1 key=5`, `c0 0..1 ok "v" delete seq=1 key=5`, `c0 0..1 ok "v" set seq=1 key=5 value="v"`, `c0 0..1 ok "" set seq=1 key=5 value="v"`, `c0 0..1 ok "" scan seq=1 key=5 hi=9 limit=1`,
		`c0 0..1 ok "v get seq=1 key=5`, `c0 0..1 ok v" get seq=1 key=5`, `c0 0..1 ok " get seq=1 key=5`, `c0 0..1 ok "v"get seq=1 key=5`, `c0 0..1 ok "v"  get seq=1 key=5`, `c0 0..1 ok "v" "v" get seq=1 key=5`, `c0 0..1 ok "\x76" get seq=1 key=5`, `c0 0..1 ok "\u{76}" get seq=1 key=5`, `c0 0..1 ok "\q" get seq=1 key=5`, `c0 0..1 ok "` + strings.Repeat("x", 65) + `" get seq=1 key=5`, `c0 0..1 ok v get seq=1 key=5`, "c0 0..1 ok \"\xff\" get seq=1 key=5", `c0 0..1 ok "\" get seq=1 key=5`,
		// message
		`c0 0..1 ok reply seq=1 of=set status=ok`, `c0 0.. unknown redirect seq=1 key=0 hi=1 host=0`, `c0 0.. unknown ack seq=1 mask=0x0000000000000000`, `c0 0..1 ok delete seq=0 key=5`, `c0 0..1 ok delete seq=1 key=05`, `c0 0..1 ok delete seq=1  key=5`, `c0 0..1 ok  delete seq=1 key=5`, `c0 0..1 ok delete seq=1 key=5 `, `c0 0..1 ok delete seq=1 key=5 x`, `c0 0..1 ok delete seq=1`, `c0 0..1 ok delete key=5 seq=1`, `c0 0..1 ok scan seq=1 key=5 hi=4 limit=1`, `c0 0..1 ok set seq=1 key=5 value="\x76"`, `c0 0..1 ok remove seq=1 key=5`,
		// blanks and ends of lines
		` c0 0..1 ok delete seq=1 key=5`, `c0  0..1 ok delete seq=1 key=5`, "c0\t0..1 ok delete seq=1 key=5", "c0 0..1 ok delete seq=1 key=5\r", "c0 0..1 ok delete seq=1 key=5\x00",
	} {
		isRefused(t, line+"\n", 1, api.ErrHisText)
		isRefused(t, "c0 7..8 ok delete seq=9 key=5\n"+line+"\n"+line, 2, api.ErrHisText)
	}
}

func TestP13_6WhichLineIsTold(t *testing.T) {
	const one, two = "c0 0..1 ok delete seq=1 key=5\n", "c0 2..3 ok delete seq=2 key=5\n"
	isRefused(t, "\n", 1, api.ErrHisText)
	isRefused(t, one+"\n", 2, api.ErrHisText)
	isRefused(t, "\n"+one, 1, api.ErrHisText)
	isRefused(t, one+"\n\n"+two, 2, api.ErrHisText)
	isRefused(t, one+two+"x\n"+"y\n", 3, api.ErrHisText)
	// The last line without its end.
	isRefused(t, one[:len(one)-1], 1, api.ErrHisText)
	isRefused(t, one+two[:len(two)-1], 2, api.ErrHisText)
	isRefused(t, one+two+"x", 3, api.ErrHisText)
	isRefused(t, one+two+" ", 3, api.ErrHisText)
	isRefused(t, one+"x\n"+two[:len(two)-1], 2, api.ErrHisText)
	// A line's own fault comes ahead of what is wrong with the calls together, wherever it stands.
	isRefused(t, one+one, 2, api.ErrCall)
	isRefused(t, one+one+"x\n", 3, api.ErrHisText)
	isRefused(t, one+one+two[:len(two)-1], 3, api.ErrHisText)
	isRefused(t, one+one+two+one, 2, api.ErrCall)
	isRefused(t, two+one, 2, api.ErrCall)
	isRefused(t, one+two+"c1 3..4 ok delete seq=1 key=5\n", 3, api.ErrCall)
	isRefused(t, one+"c1 1..3 ok delete seq=1 key=5\n", 2, api.ErrCall)
	isRefused(t, one+"c0 2..3 ok delete seq=1 key=5\n", 2, api.ErrCall)
	isRefused(t, "c0 0..3 ok delete seq=1 key=5\nc0 2..4 ok delete seq=2 key=5\n", 2, api.ErrCall)
}

// isLikeParse holds what a text says against the document's; a text that is taken is that of its calls.
func isLikeParse(t *testing.T, s string) api.Errno {
	t.Helper()
	calls, at, e := history.Parse(s)
	want, wantAt, wantErr := docParse(s)
	if shown(calls) != shown(want) || at != wantAt || e != wantErr {
		t.Fatalf("Parse(%q): %+v, %d, %d; want %+v, %d, %d", s, calls, at, e, want, wantAt, wantErr)
	}
	if back, err := history.Print(calls); e == api.OK && (back != s || err != api.OK) {
		t.Fatalf("Print of Parse(%q): %q, %d", s, back, err)
	}
	return e
}

// All texts that one change of a byte makes of those that are known.
func TestP13_6OneByteChanged(t *testing.T) {
	const signs = "\x00\n\t \"\\.:0159cghkx\xff"
	for _, k := range wellKnown {
		line := k.line + "\n"
		for i := range len(line) {
			isLikeParse(t, line[:i]+line[i+1:])
			isLikeParse(t, line[:i]+line[i:i+1]+line[i:])
			for j := range len(signs) {
				isLikeParse(t, line[:i]+signs[j:j+1]+line[i:])
				isLikeParse(t, line[:i]+signs[j:j+1]+line[i+1:])
			}
		}
	}
}

func TestP13_6RandomTexts(t *testing.T) {
	counts := map[api.Errno]int{}
	for seed := range 800 {
		d := diceOf(seed)
		calls := d.calls(1 + d.Intn(20))
		s, e := history.Print(calls)
		if e != api.OK {
			t.Fatalf("Print(%+v): %d", calls, e)
		}
		isParsed(t, s, calls...)
		counts[isLikeParse(t, s)]++
		lines := strings.SplitAfter(s, "\n")
		i, j := d.Intn(len(lines)), d.Intn(len(lines))
		lines[i], lines[j] = lines[j], lines[i]
		if i == j {
			lines[i] = lines[d.Intn(len(lines))]
		}
		counts[isLikeParse(t, strings.Join(lines, ""))]++
		if len(s) == 0 {
			continue
		}
		counts[isLikeParse(t, s[:d.Intn(len(s))])]++
		b := []byte(s)
		b[d.Intn(len(b))] ^= 1 << d.Intn(8)
		counts[isLikeParse(t, string(b))]++
	}
	if counts[api.OK] < 800 || counts[api.ErrHisText] < 500 || counts[api.ErrCall] < 300 {
		t.Errorf("%v", counts)
	}
}
