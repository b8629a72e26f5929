package shell_test

import (
	"fmt"
	"slices"
	"strings"
	"testing"

	"shard/api"
	"shard/frag"
	"shard/text"
	"shard/wire"
)

func TestP18_4Net(t *testing.T) {
	isTold(t, config(), "ask net", "ask net", "  nothing")
	ends(t, config(), "c0 set 5 \"a b\"\nshard h0 h1 0 9 3 4\ninject @200 h1 xyz\ninject @255 @254 \"\\xd6\\x01\"\nask net",
		"ask net",
		`  0: c0 > h0, packet 1, part 1 of 1, set seq=1 key=5 value="a b"`,
		"  1: admin > h0, packet 1, part 1 of 1, shard seq=1 key=0 hi=9 host=1 grant=3 bounds=4",
		"  2: @200 > h1, 3 bytes",
		"  3: @255 > @254, 2 bytes",
	)
	// Behind the first packets: their numbers, and what hosts say to each other.
	small := config()
	delegate, _ := wire.Marshal(api.Message{Kind: api.KDelegate, Hi: 9})
	data, _ := wire.Print(api.Message{Kind: api.KData, Seq: 1, Payload: delegate})
	ends(t, small, "c0 get 5\ndeliver 0\ndeliver 0\nc0 get 6\nshard h0 h1 0 9 0 0\ndeliver 1\nask net",
		"ask net",
		"  0: c0 > h0, packet 2, part 1 of 1, get seq=2 key=6",
		"  1: h0 > h1, packet 1099511627777, part 1 of 1, "+data,
		"  2: h0 > admin, packet 1099511627778, part 1 of 1, done seq=1 status=ok",
	)
	// Of a packet in parts no message is told.
	small.MTU = 64
	ends(t, small, "c0 set 5 "+strings.Repeat("x", 64)+"\nask net",
		"ask net",
		"  0: c0 > h0, packet 1, part 1 of 2",
		"  1: c0 > h0, packet 1, part 2 of 2",
	)
	// Not even if one of its parts is a whole one.
	whole, _ := wire.Marshal(api.Message{Kind: api.KSet, Seq: 1, Key: 5, Value: []byte(strings.Repeat("x", 40))})
	parts, _ := frag.Split(slices.Concat(whole, whole), 9, len(whole)+api.FragHead)
	ends(t, config(), "inject @33 h0 "+text.Quote(string(parts[0]))+"\ninject @33 h0 "+text.Quote(string(parts[1]))+"\nask net",
		"ask net",
		"  0: @33 > h0, packet 9, part 1 of 2",
		"  1: @33 > h0, packet 9, part 2 of 2",
	)
	// A fragment whose part is no message, and one that is spoilt.
	abc := `"\xd6\x01\x00\x00\x00\x00\x00\x00\x00\x05\x00\x03\x00\x01abc\x`
	sum := "%02x\\x%02x\\x%02x\\x%02x\""
	crc := crc32c([]byte("\xd6\x01\x00\x00\x00\x00\x00\x00\x00\x05\x00\x03\x00\x01abc"))
	good := abc + fmt.Sprintf(sum, crc>>24, crc>>16&255, crc>>8&255, crc&255)
	bad := abc + fmt.Sprintf(sum, crc>>24, crc>>16&255, crc>>8&255, crc&255^1)
	isTold(t, config(), "inject @33 h0 "+good+"\ninject @33 h0 "+bad+"\nask net",
		"0: ok, sent 0", "1: ok, sent 0",
		"ask net",
		"  0: @33 > h0, packet 5, part 1 of 1",
		"  1: @33 > h0, 21 bytes",
	)
	// The list has no limit but the network's.
	many := wide()
	many.Net = 4096
	told := runs(t, headOf(many)+strings.Repeat("inject @33 h0 x\n", 300)+"ask net\n")
	isSame(t, "300 datagrams", strings.HasSuffix(told, "\n  299: @33 > h0, 1 bytes\n"), true)
}

// crc32c is the sum of chapter 2, bit by bit.
func crc32c(b []byte) uint32 {
	sum := ^uint32(0)
	for _, x := range b {
		sum ^= uint32(x)
		for range 8 {
			sum = sum>>1 ^ 0x82f63b78&-(sum&1)
		}
	}
	return ^sum
}

func TestP18_4Count(t *testing.T) {
	isTold(t, config(), "ask count", "ask count", "  sent 0, injected 0, delivered 0, copied 0, dropped 0, lost 0, barred 0")
	c := config()
	c.Net = 3
	ends(t, c, "c0 get 5\ninject @33 h0 x\ninject @33 h0 x\ntick c0\ntick c0\ncopy 0\ndrop 1\ncopy 0\ndrop 1\ndrop 1\nblock h0 c0\ndeliver 0\nask count",
		"ask count",
		"  sent 2, injected 2, delivered 3, copied 2, dropped 3, lost 2, barred 1",
	)
}

func TestP18_4Owners(t *testing.T) {
	isTold(t, config(), "ask owners", "ask owners", "  0x0000000000000000  0xffffffffffffffff  h0  -")
	ends(t, config(), "c0 get 5\nshard h0 h1 0 9 0 0\ndeliver 1\nask owners",
		"ask owners",
		"  0x0000000000000000  0x0000000000000009  -   f0",
		"  0x000000000000000a  0xffffffffffffffff  h0  -",
	)
	ends(t, config(), "shard h0 h1 0 9 0 0\ndeliver 0\ndeliver 0\nask owners",
		"ask owners",
		"  0x0000000000000000  0x0000000000000009  h1  -",
		"  0x000000000000000a  0xffffffffffffffff  h0  -",
	)
	ends(t, wide(), "shard h0 h1 5 9 0 0\ndeliver 0\nclear\nshard h0 h2 20 30 0 0\ndeliver 0\nask owners",
		"ask owners",
		"  0x0000000000000000  0x0000000000000004  h0  -",
		"  0x0000000000000005  0x0000000000000009  -   f0",
		"  0x000000000000000a  0x0000000000000013  h0  -",
		"  0x0000000000000014  0x000000000000001e  -   f1",
		"  0x000000000000001f  0xffffffffffffffff  h0  -",
	)
}

// At MaxRows rows a table is as usual; with one more it is refused.
func TestP18_4Rows(t *testing.T) {
	c := wide()
	c.Hosts, c.Bounds = 4, 256
	// Three hosts hand every second key to the fourth one, 128 in all: with the key 0 there are two segments for each of them, without it one more.
	three := "shard h0 h2 100 199 0 0\nsettle 1 0\nshard h0 h3 200 18446744073709551615 0 0\nsettle 1 0\n"
	for first, rows := range []int{256, 257} {
		script := three
		for key := first; key < 256; key += 2 {
			script += fmt.Sprintf("shard h%d h1 %d %d 0 0\nsettle 1 0\n", []int{0, 2, 3}[key/100], key, key)
		}
		told := runs(t, headOf(c)+script+"ask table h1\nask owners\n")
		_, told, _ = strings.Cut(told, "ask table h1\n")
		table, owners, _ := strings.Cut(told, "ask owners\n")
		if rows > api.MaxRows {
			isSame(t, "tables", []string{table, owners}, []string{"  errno 18\n", "  errno 18\n"})
			continue
		}
		isSame(t, "rows", []int{strings.Count(table, "\n"), strings.Count(owners, "\n")}, []int{rows, rows})
		isSame(t, "the last row", strings.HasSuffix(table, "\n  0x00000000000000ff  0xffffffffffffffff  h0\n"), true)
		isSame(t, "the last row", strings.HasSuffix(owners, "\n  0x00000000000000ff  0xffffffffffffffff  h3  -\n"), true)
	}
}

// sets lets a client set so many keys, from 1 on.
func sets(n int, value string) string {
	s := ""
	for i := range n {
		s += fmt.Sprintf("c0 set %d %s\ndeliver 0\ndeliver 0\n", i+1, value)
	}
	return s
}

func TestP18_4Pairs(t *testing.T) {
	isTold(t, config(), "ask pairs", "ask pairs", "  nothing")
	script := "c0 set 5 \"a b\"\nsettle 1 0\nc0 set 18446744073709551615 \"\"\nsettle 1 0\nc0 set 77 \"\\xff\\n\"\nsettle 1 0\n"
	ends(t, config(), script+"ask pairs",
		"ask pairs",
		`  5                     "a b"`,
		`  77                    "\xff\n"`,
		`  18446744073709551615  ""`,
	)
	// Pairs in flights are there too.
	ends(t, config(), script+"shard h0 h1 0 9 0 0\ndeliver 0\nask pairs",
		"ask pairs",
		`  5                     "a b"`,
		`  77                    "\xff\n"`,
		`  18446744073709551615  ""`,
	)
	// The longest value still has its cell.
	long := strings.Repeat("\x7f", 64)
	ends(t, config(), "c0 set 5 "+text.Quote(long)+"\nsettle 1 0\nask pairs", "ask pairs", "  5  "+text.Quote(long))
	told := runs(t, headOf(wide())+sets(256, "v")+"ask pairs\n"+sets(1, "w")+"c0 set 300 v\nsettle 1 0\nask pairs\n")
	_, told, _ = strings.Cut(told, "ask pairs\n")
	isSame(t, "256 pairs", strings.Count(told[:strings.Index(told, "768: ")], "\n"), 256)
	isSame(t, "257 pairs", strings.HasSuffix(told, "\nask pairs\n  errno 18\n"), true)
}

func TestP18_4Audit(t *testing.T) {
	isTold(t, config(), "ask audit", "ask audit", "  nothing")
	ends(t, config(), "shard h0 h1 0 9 1 1\ndeliver 0\nask audit", "ask audit", "  nothing")
}

func TestP18_4Log(t *testing.T) {
	isTold(t, config(), "ask log\nc0 get 5\nask log\ndeliver 0\ndeliver 0\nask log",
		"ask log", "  nothing",
		"0: ok, sent 1", "  0: c0 begins get seq=1 key=5",
		"ask log", "  0: c0 begins get seq=1 key=5",
		"1: ok, sent 1",
		"2: ok, sent 0", `  2: c0 ends seq=1 status=missing host=0 sent=1 hops=0 value="" hi=0 pairs=[]`,
		"ask log", "  0: c0 begins get seq=1 key=5", `  2: c0 ends seq=1 status=missing host=0 sent=1 hops=0 value="" hi=0 pairs=[]`,
	)
	// It is no table: it has no limit of rows.
	told := runs(t, headOf(wide())+strings.Repeat("c0 get 5\nc0 quit\n", 200)+"ask log\n")
	_, log, _ := strings.Cut(told, "ask log\n")
	isSame(t, "400 events", strings.Count(log, "\n"), 400)
}

func TestP18_4Linear(t *testing.T) {
	isTold(t, config(), "ask linear", "ask linear", "  linearizable", "  order")
	one := "c0 set 1 a\ndeliver 0\ndeliver 0\n"
	ends(t, config(), one+"ask linear", "ask linear", "  linearizable", "  order 0")
	// A scan stands in no order; what was given up may.
	ends(t, config(), one+"c0 scan 0 9 4\ndeliver 0\ndeliver 0\nc0 cas 1 a b\nc0 quit\nc0 get 1\ndeliver 0\nclear\ntick c0\ntick c0\ndeliver 0\ndeliver 0\nask linear",
		"ask linear", "  linearizable", "  order 0 2 3")
	ends(t, wide(), "c0 set 1 a\nc1 get 1\ndeliver 1\ndeliver 0\ndeliver 0\ndeliver 0\nask linear", "ask linear", "  linearizable", "  order 1 0")
	// 16 calls of a key are judged, 17 are not; nor are more than 256 in all.
	many := wide()
	ends(t, many, strings.Repeat(one, 16)+"ask linear", "ask linear", "  linearizable", "  order 0 1 2 3 4 5 6 7 8 9 10 11 12 13 14 15")
	ends(t, many, strings.Repeat(one, 17)+"ask linear", "ask linear", "  errno 141")
	ends(t, many, sets(257, "v")+"ask linear", "ask linear", "  errno 141")
	told := runs(t, headOf(many)+sets(256, "v")+"ask linear")
	isSame(t, "256 calls", strings.HasSuffix(told, " 253 254 255\n") && strings.Contains(told, "ask linear\n  linearizable\n  order 0 1 2 "), true)
}

func TestP18_4Moves(t *testing.T) {
	isTold(t, config(), "ask moves", "ask moves", "  nothing")
	c := wide()
	c.Hosts = 3
	ends(t, c, sets(5, "v")+"ask moves",
		"ask moves",
		"  h0  h1  0x0000000000000004  0xffffffffffffffff  2",
		"  h0  h2  0x0000000000000003  0x0000000000000003  1",
	)
	ends(t, c, sets(60, "v")+"ask moves",
		"ask moves",
		"  h0  h1  0x0000000000000029  0xffffffffffffffff  20",
		"  h0  h2  0x0000000000000015  0x0000000000000028  20",
	)
	ends(t, c, "shard h0 h1 0 9 0 0\ndeliver 0\nask moves", "ask moves", "  errno 151")
}

func TestP18_4Table(t *testing.T) {
	isTold(t, config(), "ask table h0\nask table h1",
		"ask table h0", "  0x0000000000000000  0xffffffffffffffff  h0",
		"ask table h1", "  0x0000000000000000  0xffffffffffffffff  h0",
	)
	ends(t, config(), "shard h0 h1 16 31 0 0\ndeliver 0\nask table h0\nask table h1",
		"ask table h0",
		"  0x0000000000000000  0x000000000000000f  h0",
		"  0x0000000000000010  0x000000000000001f  h1",
		"  0x0000000000000020  0xffffffffffffffff  h0",
		"ask table h1",
		"  0x0000000000000000  0xffffffffffffffff  h0",
	)
	for _, a := range []string{"h2", "h15", "c0", "admin", "@33", "@255"} {
		isTold(t, config(), "ask table "+a, "ask table "+a, "  errno 2")
		isTold(t, config(), "ask node "+a, "ask node "+a, "  errno 2")
	}
	// An address is told as Print writes it.
	isTold(t, config(), "name host h1\nask table host\nask table @16\nask table @0", "ask table h1", "  0x0000000000000000  0xffffffffffffffff  h0", "ask table c0", "  errno 2", "ask table h0", "  0x0000000000000000  0xffffffffffffffff  h0")
}

func TestP18_4Node(t *testing.T) {
	c := wide()
	c.Group, c.MTU = 9, 64
	ends(t, c, "ask node h0\nask node h2",
		"ask node h0", "  up, epoch 1, held 0, partial 0, slot 1, records 0, bytes 157, waiting 0, unsynced 0", "  free 500, spare 200, pairs 0, sessions 0, segments 1",
		"ask node h2", "  up, epoch 1, held 0, partial 0, slot 1, records 0, bytes 157, waiting 0, unsynced 0", "  free 500, spare 200, pairs 0, sessions 0, segments 1",
	)
	// A set is written down, and its reply held back; of another's packet one part has come.
	set := "c0 set 5 v\nc1 set 6 " + strings.Repeat("x", 64) + "\nc2 delete 7\ndeliver 0\ndeliver 0\ndeliver 1\n"
	ends(t, c, set+"ask node h0",
		"ask node h0", "  up, epoch 1, held 2, partial 1, slot 1, records 2, bytes 217, waiting 2, unsynced 60", "  free 499, spare 200, pairs 1, sessions 2, segments 1",
	)
	ends(t, c, set+"sync h0\nask node h0",
		"ask node h0", "  up, epoch 1, held 0, partial 1, slot 1, records 2, bytes 217, waiting 0, unsynced 0", "  free 499, spare 200, pairs 1, sessions 2, segments 1",
	)
	ends(t, c, set+"sync h0\ncompact h0\nask node h0",
		"ask node h0", "  up, epoch 1, held 0, partial 1, slot 0, records 0, bytes 188, waiting 0, unsynced 188", "  free 499, spare 200, pairs 1, sessions 2, segments 1",
	)
	ends(t, c, set+"crash h0 0\nask node h0\nrestart h0\nask node h0",
		"ask node h0", "  down, epoch 1, held 0, partial 0, slot 0, records 0, bytes 0, waiting 0, unsynced 0", "  free 500, spare 200, pairs 0, sessions 0, segments 1",
		"7: ok, sent 0",
		"ask node h0", "  up, epoch 2, held 0, partial 0, slot 0, records 0, bytes 157, waiting 0, unsynced 0", "  free 500, spare 200, pairs 0, sessions 0, segments 1",
	)
}

func TestP18_4Client(t *testing.T) {
	isTold(t, config(), "ask client c0\nask client c1\nask client h0\nask client admin\nask client @255",
		"ask client c0", "  idle",
		"ask client c1", "  errno 2",
		"ask client h0", "  errno 2",
		"ask client admin", "  errno 2",
		"ask client @255", "  errno 2",
	)
	isClient := func(script, want string) {
		t.Helper()
		ends(t, config(), script+"\nask client c0", "ask client c0", "  "+want)
	}
	isClient("c0 at h1 get 5", "waiting, seq 1, host h1, sent 1, hops 0")
	isClient("c0 at h1 get 5\ntick c0\ntick c0", "waiting, seq 1, host h1, sent 2, hops 0")
	isClient("c0 at h1 get 5\ndeliver 0\ndeliver 0", "waiting, seq 1, host h0, sent 2, hops 1")
	isClient("c0 get 5\nc0 quit", "unknown, seq 1, host h0, sent 1, hops 0")
	isClient("c0 set 5 v\ndeliver 0\ndeliver 0", "done, seq 1, host h0, sent 1, hops 0, status ok")
	isClient("c0 set 5 v\nsettle 1 0\nc0 get 5\nsettle 1 0", `done, seq 2, host h0, sent 1, hops 0, status ok, value "v"`)
	isClient("c0 set 5 \"a, \\xff\"\nsettle 1 0\nc0 at h1 get 5\nsettle 1 0", `done, seq 2, host h0, sent 2, hops 1, status ok, value "a, \xff"`)
	isClient("c0 set 5 \"\"\nsettle 1 0\nc0 get 5\nsettle 1 0", "done, seq 2, host h0, sent 1, hops 0, status ok")
	isClient("c0 get 5\nsettle 1 0", "done, seq 1, host h0, sent 1, hops 0, status missing")
	isClient("c0 cas 5 a b\nsettle 1 0", "done, seq 1, host h0, sent 1, hops 0, status differs")
	isClient(sets(4, "v")+"c0 set 9 v\nsettle 1 0", "done, seq 5, host h0, sent 1, hops 0, status nocredit")
	isClient("c0 scan 0 9 3\nsettle 1 0", "done, seq 1, host h0, sent 1, hops 0, status ok")
	isClient(sets(3, "v")+"c0 set 2 \"\"\nsettle 1 0\nc0 scan 0 9 3\nsettle 1 0", `done, seq 5, host h0, sent 1, hops 0, status ok, 1="v", 2="", 3="v"`)
	isClient("c0 set 18446744073709551615 x\nsettle 1 0\nc0 scan 0 18446744073709551615 3\nsettle 1 0", `done, seq 2, host h0, sent 1, hops 0, status ok, 18446744073709551615="x"`)
	// Each client is told for itself.
	ends(t, wide(), "c2 get 5\nsettle 1 0\nc1 get 5\nask client c0\nask client c1\nask client c2",
		"ask client c0", "  idle",
		"ask client c1", "  waiting, seq 1, host h0, sent 1, hops 0",
		"ask client c2", "  done, seq 1, host h0, sent 1, hops 0, status missing",
	)
}

func TestP18_4Hints(t *testing.T) {
	isTold(t, config(), "ask hints c0\nask hints c1\nask hints h0",
		"ask hints c0", "  0x0000000000000000  0xffffffffffffffff  h0",
		"ask hints c1", "  errno 2",
		"ask hints h0", "  errno 2",
	)
	ends(t, config(), "shard h0 h1 0 9 0 0\nsettle 2 0\nc0 get 5\nsettle 1 0\nask hints c0",
		"ask hints c0",
		"  0x0000000000000000  0x0000000000000009  h1",
		"  0x000000000000000a  0xffffffffffffffff  h0",
	)
}

// The chapter's examples, in their order.
func TestP18Examples(t *testing.T) {
	isFault(t, "", 1, api.ErrHeader)
	for line, e := range map[string]api.Errno{"c0 get": api.ErrUsage, "c0 put 1 2": api.ErrCommand, "get 1": api.ErrCommand, "deliver x": api.ErrUsage, "ask": api.ErrCommand, "ask what": api.ErrCommand, "ask net 1": api.ErrUsage, "name h1 h0": api.ErrUsage} {
		isFault(t, head+line, 2, e)
	}
	isFault(t, head+"name a h0\nname a h1", 3, api.ErrUsage)
	isSame(t, "example 3", parses(t, head+"name \u00c4lpha h1\ncrash \u00e4lpha 0"), scriptOf(api.Step{Kind: api.SCrash, A: 1}))
	s := asking([]api.Step{{Kind: api.SBegin, A: 16, Req: api.Request{Kind: api.KSet, Key: 5, Value: []byte("a b")}}}, api.Ask{At: 1, What: api.AskNet})
	isSame(t, "example 4", prints(t, s), head+"c0 set 5 \"a b\"\nask net\n")
	isSame(t, "example 5", plays(t, s), lined("0: ok, sent 1", `  0: c0 begins set seq=1 key=5 value="a b"`, "ask net", `  0: c0 > h0, packet 1, part 1 of 1, set seq=1 key=5 value="a b"`))
	ends(t, config(), "c0 set 5 \"a b\"\ndeliver 0\ndeliver 0\nask client c0", "ask client c0", "  done, seq 1, host h0, sent 1, hops 0, status ok")
	isTold(t, config(), "ask owners", "ask owners", "  0x0000000000000000  0xffffffffffffffff  h0  -")
	ends(t, config(), "c0 get 5\nshard h0 h1 0 9 0 0\ndeliver 1\nask owners", "ask owners", "  0x0000000000000000  0x0000000000000009  -   f0", "  0x000000000000000a  0xffffffffffffffff  h0  -")
	ends(t, config(), "c0 at h1 get 5\nsettle 3 0\nask client c0", "ask client c0", "  done, seq 1, host h0, sent 2, hops 1, status missing")
	isTold(t, config(), "settle 65 0", "0: errno 170, sent 0")
}

// Every kind of question is answered at every state that a short script leads to, and no audit finds anything.
func TestP18_4EveryQuestion(t *testing.T) {
	every := "ask " + strings.Join(docQuestions[:8], "\nask ") + "\nask table h0\nask node h0\nask client c0\nask hints c0\n"
	for seed := range 30 {
		d := diceOf(seed)
		c := d.config()
		c.Clients = max(1, c.Clients)
		s := headOf(c)
		for _, step := range d.script(c, 40, 0).Steps {
			line, _ := docStepLine(step)
			s += line + "\n" + every
		}
		told := runs(t, s)
		isSame(t, "answers", strings.Count(told, "\nask "), 12*40)
		if strings.Count(told, "ask audit\n  nothing\n") != 40 {
			t.Errorf("an audit found something")
		}
		isSame(t, "linearizable", strings.Count(told, "ask linear\n  linearizable\n")+strings.Count(told, "ask linear\n  errno 141\n"), 40)
	}
}
