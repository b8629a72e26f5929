package wire_test

import (
	"math/rand"
	"strings"
	"testing"

	"shard/api"
	"shard/wire"
)

func TestP3_9LinesOfEachKind(t *testing.T) {
	for _, c := range []struct {
		m    api.Message
		line string
	}{
		{api.Message{Kind: api.KGet, Seq: 1, Key: 5}, `get seq=1 key=5`},
		{api.Message{Kind: api.KSet, Seq: 300, Key: 1, Value: []byte("hi")}, `set seq=300 key=1 value="hi"`},
		{api.Message{Kind: api.KDelete, Seq: most, Key: most}, `delete seq=18446744073709551615 key=18446744073709551615`},
		{api.Message{Kind: api.KCas, Seq: 1, Key: 2, Value: []byte("\"\n\xff")}, `cas seq=1 key=2 old=none value="\"\n\xff"`},
		{api.Message{Kind: api.KCas, Seq: 1, Key: 2, Has: true}, `cas seq=1 key=2 old="" value=""`},
		{api.Message{Kind: api.KCas, Seq: 1, Key: 2, Has: true, Old: []byte("none")}, `cas seq=1 key=2 old="none" value=""`},
		{api.Message{Kind: api.KScan, Seq: 1, Key: 0, Hi: most, Limit: 16}, `scan seq=1 key=0 hi=18446744073709551615 limit=16`},
		{api.Message{Kind: api.KReply, Seq: 1, Of: api.KGet, Status: api.StOK}, `reply seq=1 of=get status=ok value=""`},
		{api.Message{Kind: api.KReply, Seq: 1, Of: api.KGet, Status: api.StMissing}, `reply seq=1 of=get status=missing`},
		{api.Message{Kind: api.KReply, Seq: 1, Of: api.KSet, Status: api.StNoCredit}, `reply seq=1 of=set status=nocredit`},
		{api.Message{Kind: api.KReply, Seq: 1, Of: api.KDelete, Status: api.StOK}, `reply seq=1 of=delete status=ok`},
		{api.Message{Kind: api.KReply, Seq: 1, Of: api.KCas, Status: api.StDiffers}, `reply seq=1 of=cas status=differs`},
		{api.Message{Kind: api.KReply, Seq: 1, Of: api.KScan, Status: api.StOK, Hi: 7}, `reply seq=1 of=scan status=ok hi=7 pairs=[]`},
		{api.Message{Kind: api.KReply, Seq: 1, Of: api.KScan, Status: api.StOK, Hi: 7, Pairs: []api.Pair{{Key: 0}, {Key: 7, Value: []byte("]")}}}, `reply seq=1 of=scan status=ok hi=7 pairs=[0:"",7:"]"]`},
		{api.Message{Kind: api.KRedirect, Seq: 1, Key: 3, Hi: 4, Host: 15}, `redirect seq=1 key=3 hi=4 host=15`},
		{api.Message{Kind: api.KShard, Seq: 1, Key: 3, Hi: 4, Host: 0, Grant: 65535, Bounds: 9}, `shard seq=1 key=3 hi=4 host=0 grant=65535 bounds=9`},
		{api.Message{Kind: api.KDone, Seq: 1, Status: api.StQueue}, `done seq=1 status=queue`},
		{api.Message{Kind: api.KData, Seq: 1, Payload: []byte{0, 'a'}}, `data seq=1 payload="\u{0}a"`},
		{api.Message{Kind: api.KAck}, `ack seq=0 mask=0x0000000000000000`},
		{api.Message{Kind: api.KAck, Seq: 2, Mask: 0xfedcba9876543210}, `ack seq=2 mask=0xfedcba9876543210`},
		{api.Message{Kind: api.KDelegate, Key: 1, Hi: 2}, `delegate key=1 hi=2 grant=0 bounds=0 pairs=[] sessions=[]`},
		{api.Message{Kind: api.KDelegate, Key: 1, Hi: 2, Pairs: []api.Pair{{Key: 2, Value: []byte("v")}}, Sessions: []api.Session{{Client: 16, Seq: 1, Status: api.StOK}, {Client: 31, Seq: most, Status: api.StDiffers}}}, `delegate key=1 hi=2 grant=0 bounds=0 pairs=[2:"v"] sessions=[16:1:ok,31:18446744073709551615:differs]`},
	} {
		if s, e := wire.Print(c.m); s != c.line || e != api.OK {
			t.Errorf("Print(%+v) = %s, %v, want %s", c.m, s, e, c.line)
		}
		if m, at, e := wire.Read(c.line); !alike(m, c.m) || at != 0 || e != api.OK {
			t.Errorf("Read(%s) = %+v, %d, %v", c.line, m, at, e)
		}
	}
}

func TestP3_9EachStatusHasItsWord(t *testing.T) {
	for _, st := range docDones {
		if s := print(t, api.Message{Kind: api.KDone, Seq: 1, Status: st}); s != "done seq=1 status="+docStatuses[st] {
			t.Errorf("a done with the status %d: %s", st, s)
		}
	}
}

func TestP3_9PrintSaysWhatTheRulesSay(t *testing.T) {
	rnd := rand.New(rand.NewSource(309))
	for _, m := range samples(rnd, 1000) {
		s := print(t, m)
		if want := docPrint(m); s != want {
			t.Fatalf("Print(%+v) = %s, want %s", m, s, want)
		}
		if got, at, e := wire.Read(s); !alike(got, m) || at != 0 || e != api.OK {
			t.Fatalf("Read(%s) = %+v, %d, %v", s, got, at, e)
		}
	}
}

// readsTo asks for the place of the fault; a place below 0 is none.
func readsTo(t *testing.T, line string, at int) {
	t.Helper()
	m, gotAt, e := wire.Read(line)
	if at < 0 {
		if gotAt != 0 || e != api.OK || print(t, m) != line {
			t.Errorf("Read(%q) = %+v, %d, %v", line, m, gotAt, e)
		}
	} else if gotAt != at || e != api.ErrPrint || !isZero(m) {
		t.Errorf("Read(%q) = %+v, %d, %v, want %d", line, m, gotAt, e, at)
	}
	if _, at2, e2 := docRead(line); at2 != max(0, at) || (e2 == api.OK) != (at < 0) {
		t.Errorf("the oracle on %q: %d, %v", line, at2, e2)
	}
}

func TestP3_10PlacesOfFaults(t *testing.T) {
	for _, c := range []struct {
		line string
		at   int
	}{
		// The chapter's tenth example.
		{"get seq=1 key=05", 9}, {"get seq=1  key=5", 9}, {"get seq=1 key=5 ", 15}, {"got seq=1", 0}, {"scan seq=1 key=9 hi=8 limit=1", 16}, {"reply seq=1 of=get status=differs", 18},

		{"", 0}, {" ", 0}, {"ge", 0}, {"gets seq=1 key=5", 0}, {"geta seq=1 key=5", 0}, {"getz seq=1 key=5", 0}, {"get{ seq=1 key=5", 3}, {"get` seq=1 key=5", 3}, {"Get seq=1 key=5", 0}, {"get", 3}, {"get ", 3}, {"get=", 3}, {"get1", 3}, {"get\tseq=1 key=5", 3}, {"get seq", 3}, {"get seq=", 3}, {"get seq= key=5", 3}, {"get seq=1", 9}, {"get key=5 seq=1", 3}, {"get seq=1 seq=1", 9}, {"get Seq=1 key=5", 3}, {"get seq =1 key=5", 3}, {"get seq=+1 key=5", 3}, {"get seq=-1 key=5", 3}, {"get seq=0x1 key=5", 3}, {"get seq=0 key=5", 3}, {"get seq=00 key=5", 3}, {"get seq=01 key=5", 3},
		{"get seq=1 key=0", -1}, {"get seq=1 key=00", 9}, {"get seq=1 key=5\n", 15}, {"get seq=1 key=5 hi=5", 15}, {"get seq=1 key=5x", 15}, {"get seq=1key=5", 9}, {"get seq=18446744073709551615 key=18446744073709551615", -1}, {"get seq=18446744073709551616 key=0", 3}, {"get seq=1 key=18446744073709551616", 9}, {"get seq=1 key=99999999999999999999999999", 9},
		{"delegate key=1", 14}, {"delegate seq=1 key=1", 8}, {"data seq=0 payload=\"a\"", 4}, {"ack seq=0 mask=0x0000000000000001", -1},

		{`set seq=1 key=1 value="A"`, -1}, {`set seq=1 key=1 value="\x41"`, 15}, {`set seq=1 key=1 value="\u{41}"`, 15}, {`set seq=1 key=1 value="\u{07}"`, 15}, {`set seq=1 key=1 value="\u{7}"`, -1}, {`set seq=1 key=1 value="\u{a}"`, 15}, {`set seq=1 key=1 value="\xFF"`, 15}, {`set seq=1 key=1 value="\xff"`, -1}, {`set seq=1 key=1 value="\xc3\xa9"`, 15}, {`set seq=1 key=1 value="é"`, -1}, {"set seq=1 key=1 value=\"\xff\"", 15}, {"set seq=1 key=1 value=\"\n\"", 15},
		{`set seq=1 key=1 value="A`, 15}, {`set seq=1 key=1 value="A\"`, 15}, {`set seq=1 key=1 value="A\`, 15}, {`set seq=1 key=1 value="A\\"`, -1}, {`set seq=1 key=1 value="A\\"B"`, 27}, {`set seq=1 key=1 value="A\""`, -1}, {`set seq=1 key=1 value="A"B`, 25}, {`set seq=1 key=1 value="A""B"`, 25}, {`set seq=1 key=1 value=`, 15}, {`set seq=1 key=1 value=A"`, 15}, {`set seq=1 key=1 value=none`, 15}, {`set seq=1 key=1 value=""`, -1}, {`set seq=1 key=1 value="\q"`, 15},
		{`cas seq=1 key=1 old=none value=""`, -1}, {`cas seq=1 key=1 old="none" value=""`, -1}, {`cas seq=1 key=1 old= value=""`, 15}, {`cas seq=1 key=1 old=non value=""`, 15}, {`cas seq=1 key=1 old=None value=""`, 15}, {`cas seq=1 key=1 old=nonevalue=""`, 24}, {`cas seq=1 key=1 old=nones value=""`, 24}, {`cas seq=1 key=1 old=none"" value=""`, 24}, {`cas seq=1 key=1 old="" value="`, 22}, {`cas seq=1 key=1 value=""`, 15}, {`cas seq=1 key=1 old="\x41" value=""`, 15}, {`cas seq=1 key=1 has=true old="" value=""`, 15},
		{"scan seq=1 key=9 hi=9 limit=0", 21}, {"scan seq=1 key=9 hi=9 limit=16", -1}, {"scan seq=1 key=9 hi=9 limit=17", 21}, {"scan seq=1 key=9 hi=9 limit=256", 21}, {"scan seq=1 key=9 hi=9 limit=257", 21}, {"scan seq=1 key=9 hi=9 limit=18446744073709551617", 21}, {"scan seq=1 key=9 hi=10 limit=01", 22},
		{"redirect seq=1 key=0 hi=0 host=15", -1}, {"redirect seq=1 key=0 hi=0 host=16", 25}, {"redirect seq=1 key=0 hi=0 host=256", 25}, {"redirect seq=1 key=1 hi=0 host=1", 20},
		{"shard seq=1 key=0 hi=0 host=1 grant=65535 bounds=65535", -1}, {"shard seq=1 key=0 hi=0 host=1 grant=65536 bounds=0", 29}, {"shard seq=1 key=0 hi=0 host=1 grant=0 bounds=65536", 37}, {"shard seq=1 key=0 hi=0 host=1 grant=4294967296 bounds=0", 29}, {"shard seq=1 key=0 hi=0 host=1 grant=4294967297 bounds=4294967296", 29}, {"shard seq=1 key=0 hi=0 host=1 grant=1 bounds=4294967296", 37},
		{"ack seq=0 mask=0x", 9}, {"ack seq=0 mask=0x000000000000000", 9}, {"ack seq=0 mask=0x00000000000000000", 9}, {"ack seq=0 mask=0x000000000000000A", 9}, {"ack seq=0 mask=0X0000000000000000", 9}, {"ack seq=0 mask=0", 9}, {"ack seq=0 mask=0xffffffffffffffff", -1}, {"ack seq=0 mask=0xffffffffffffffffg", 33}, {"ack seq=0 mask=0xfffffffffffffffffff", 9},
		{"reply seq=1 of=get status=ok", 28}, {"reply seq=1 of=get status=ok value=\"\"", -1}, {"reply seq=1 of=get status=missing value=\"\"", 33}, {"reply seq=1 of= status=ok", 11}, {"reply seq=1 of=reply status=ok", 11}, {"reply seq=1 of=gets status=ok", 11}, {"reply seq=1 of=1 status=ok", 11}, {"reply seq=1 of=set status=", 18}, {"reply seq=1 of=set status=1", 18}, {"reply seq=1 of=set status=okay", 18}, {"reply seq=1 of=set status=ok value=\"\"", 28}, {"reply seq=1 of=scan status=missing", 19},
		{"done seq=1 status=missing", 10}, {"done seq=1 status=differs", 10}, {"done seq=1 status=nobound", -1}, {"done seq=1 status=ok1", 20}, {"done seq=1 status=oka", 10}, {"done seq=1 status=okz", 10}, {"data seq=1 payload=\"\"", 10}, {"data seq=1 payload=\" \"", -1},
		{`reply seq=1 of=scan status=ok hi=5 pairs=[]`, -1}, {`reply seq=1 of=scan status=ok hi=5 pairs=`, 34}, {`reply seq=1 of=scan status=ok hi=5 pairs=[`, 34}, {`reply seq=1 of=scan status=ok hi=5 pairs=]`, 34}, {`reply seq=1 of=scan status=ok hi=5 pairs=[ ]`, 34}, {`reply seq=1 of=scan status=ok hi=5 pairs=[4:""`, 34}, {`reply seq=1 of=scan status=ok hi=5 pairs=[4:"",]`, 34}, {`reply seq=1 of=scan status=ok hi=5 pairs=[,4:""]`, 34}, {`reply seq=1 of=scan status=ok hi=5 pairs=[4:"" ,5:""]`, 34}, {`reply seq=1 of=scan status=ok hi=5 pairs=[4:"", 5:""]`, 34}, {`reply seq=1 of=scan status=ok hi=5 pairs=[4:"",,5:""]`, 34}, {`reply seq=1 of=scan status=ok hi=5 pairs=[4:"";5:""]`, 34}, {`reply seq=1 of=scan status=ok hi=5 pairs=[4:"",5:""]`, -1}, {`reply seq=1 of=scan status=ok hi=5 pairs=[4:"",5:""]]`, 52}, {`reply seq=1 of=scan status=ok hi=5 pairs=[4]`, 34}, {`reply seq=1 of=scan status=ok hi=5 pairs=[4:]`, 34}, {`reply seq=1 of=scan status=ok hi=5 pairs=[:""]`, 34}, {`reply seq=1 of=scan status=ok hi=5 pairs=[04:""]`, 34}, {`reply seq=1 of=scan status=ok hi=5 pairs=[4:"\x41"]`, 34}, {`reply seq=1 of=scan status=ok hi=5 pairs=[4:"]`, 34}, {`reply seq=1 of=scan status=ok hi=5 pairs=[6:""]`, 34}, {`reply seq=1 of=scan status=ok hi=5 pairs=[5:"",5:""]`, 34}, {`reply seq=1 of=scan status=ok hi=5 pairs=[5:"",4:""]`, 34}, {`reply seq=1 of=scan status=ok hi=5 pairs=[18446744073709551616:""]`, 34}, {`reply seq=1 of=scan status=ok pairs=[]`, 29},
		{"delegate key=3 hi=9 grant=0 bounds=0 pairs=[2:\"\"] sessions=[]", 36}, {"delegate key=3 hi=9 grant=0 bounds=0 pairs=[10:\"\"] sessions=[]", 36}, {"delegate key=3 hi=9 grant=0 bounds=0 pairs=[3:\"\",9:\"\"] sessions=[]", -1},
		{"delegate key=3 hi=9 grant=0 bounds=0 pairs=[] sessions=[16:1:ok,31:1:nocredit]", -1}, {"delegate key=3 hi=9 grant=0 bounds=0 pairs=[] sessions=[16:1:ok,16:2:ok]", 45}, {"delegate key=3 hi=9 grant=0 bounds=0 pairs=[] sessions=[17:1:ok,16:2:ok]", 45}, {"delegate key=3 hi=9 grant=0 bounds=0 pairs=[] sessions=[15:1:ok]", 45}, {"delegate key=3 hi=9 grant=0 bounds=0 pairs=[] sessions=[32:1:ok]", 45}, {"delegate key=3 hi=9 grant=0 bounds=0 pairs=[] sessions=[272:1:ok]", 45}, {"delegate key=3 hi=9 grant=0 bounds=0 pairs=[] sessions=[16:0:ok]", 45}, {"delegate key=3 hi=9 grant=0 bounds=0 pairs=[] sessions=[16:1:many]", 45}, {"delegate key=3 hi=9 grant=0 bounds=0 pairs=[] sessions=[16:1:]", 45}, {"delegate key=3 hi=9 grant=0 bounds=0 pairs=[] sessions=[16:1]", 45}, {"delegate key=3 hi=9 grant=0 bounds=0 pairs=[] sessions=[16:ok]", 45}, {"delegate key=3 hi=9 grant=0 bounds=0 pairs=[] sessions=[016:1:ok]", 45}, {"delegate key=3 hi=9 grant=0 bounds=0 pairs=[] sessions=[16:01:ok]", 45}, {"delegate key=3 hi=9 grant=0 bounds=0 pairs=[] sessions=[] ", 57}, {"delegate key=3 hi=9 grant=0 bounds=0 pairs=[]sessions=[]", 45},
	} {
		readsTo(t, c.line, c.at)
	}
}

func TestP3_10LimitsOfTexts(t *testing.T) {
	a := func(n int) string { return strings.Repeat("a", n) }
	readsTo(t, `set seq=1 key=1 value="`+a(64)+`"`, -1)
	readsTo(t, `set seq=1 key=1 value="`+a(65)+`"`, 15)
	readsTo(t, `set seq=1 key=1 value="`+strings.Repeat(`\n`, 64)+`"`, -1)
	readsTo(t, `cas seq=1 key=1 old="`+a(64)+`" value=""`, -1)
	readsTo(t, `cas seq=1 key=1 old="`+a(65)+`" value=""`, 15)
	readsTo(t, `data seq=1 payload="`+a(3072)+`"`, -1)
	readsTo(t, `data seq=1 payload="`+a(3073)+`"`, 10)
	readsTo(t, `reply seq=1 of=scan status=ok hi=5 pairs=[1:"`+a(64)+`"]`, -1)
	readsTo(t, `reply seq=1 of=scan status=ok hi=5 pairs=[1:"`+a(65)+`"]`, 34)
	list := func(n int) string {
		var l []string
		for i := range n {
			l = append(l, string(rune('1'+i/10))+string(rune('0'+i%10))+`:""`)
		}
		return "[" + strings.Join(l, ",") + "]"
	}
	readsTo(t, `reply seq=1 of=scan status=ok hi=99 pairs=`+list(16), -1)
	readsTo(t, `reply seq=1 of=scan status=ok hi=99 pairs=`+list(17), 35)
	readsTo(t, `delegate key=0 hi=99 grant=0 bounds=0 pairs=`+list(32)+` sessions=[]`, -1)
	readsTo(t, `delegate key=0 hi=99 grant=0 bounds=0 pairs=`+list(33)+` sessions=[]`, 37)
	sessions := strings.ReplaceAll(strings.Trim(list(22)[7*6:], `[,]`), `""`, "1:ok")
	readsTo(t, `delegate key=0 hi=9 grant=0 bounds=0 pairs=[] sessions=[`+sessions+`]`, -1)
	readsTo(t, `delegate key=0 hi=9 grant=0 bounds=0 pairs=[] sessions=[`+sessions+`,32:1:ok]`, 45)
	readsTo(t, strings.Repeat("get", 100000), 0)
	readsTo(t, "get seq="+strings.Repeat("1", 100000)+" key=5", 3)
	readsTo(t, `set seq=1 key=1 value="`+a(100000), 15)
	readsTo(t, `delegate key=0 hi=99 grant=0 bounds=0 pairs=[`+strings.Repeat(`1:"",`, 100000), 37)
}

// scrawled changes some bytes of a line.
func scrawled(rnd *rand.Rand, line string) string {
	bits := []string{" ", "=", `"`, `\`, ":", ",", "[", "]", "0", "1", "9", "a", "x", "f", "none", "ok", "\n", "{", "}", "é", "\xff", "65536", "get", " seq=1"}
	for range 1 + rnd.Intn(2) {
		at := rnd.Intn(len(line) + 1)
		if rnd.Intn(3) > 0 {
			// Most bytes of a long line are a text's: what stands at its marks is of more interest.
			if i := strings.IndexAny(line[at:], `= "[]:,`); i >= 0 {
				at += i + rnd.Intn(2)
			}
		}
		switch rest := line[at:]; {
		case rnd.Intn(8) == 0:
			line = line[:at]
		case rest != "" && rnd.Intn(3) == 0:
			line = line[:at] + rest[1:]
		case rest != "" && rnd.Intn(2) == 0:
			line = line[:at] + pick(rnd, bits) + rest[1:]
		default:
			line = line[:at] + pick(rnd, bits) + rest
		}
	}
	return line
}

func TestP3_10ReadSaysWhatTheRulesSay(t *testing.T) {
	rnd := rand.New(rand.NewSource(310))
	taken := 0
	for _, m := range samples(rnd, 300) {
		line := docPrint(m)
		for range 8 {
			s := scrawled(rnd, line)
			want, at, e := docRead(s)
			got, gotAt, gotE := wire.Read(s)
			if gotAt != at || gotE != e || !alike(got, want) {
				t.Fatalf("Read(%q) = %+v, %d, %v, want %+v, %d, %v", s, got, gotAt, gotE, want, at, e)
			}
			if e == api.OK {
				taken++
				if print(t, got) != s {
					t.Fatalf("Print of Read(%q) = %q", s, print(t, got))
				}
			}
		}
	}
	if taken < 1000 {
		t.Errorf("only %d lines were to be taken", taken)
	}
}

func TestP3_11AnyLine(t *testing.T) {
	rnd := rand.New(rand.NewSource(3110))
	for range 20000 {
		b := make([]byte, rnd.Intn(40))
		rnd.Read(b)
		s := pick(rnd, docWords) + string(b)
		if m, at, e := wire.Read(s); e != api.ErrPrint || at < 0 || at > len(s) || !isZero(m) {
			t.Fatalf("Read(%q) = %+v, %d, %v", s, m, at, e)
		}
	}
}
