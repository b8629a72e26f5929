package history_test

import (
	"fmt"
	"math"
	"slices"
	"strings"
	"testing"

	"shard/api"
	"shard/history"
)

// at gives an event with another step.
func at(step int, e api.Event) api.Event {
	e.Step = step
	return e
}

func TestP13_1LinesOfEvents(t *testing.T) {
	returned := scanEnds(15, 7, 20, 5, 20)
	returned.Out.Host, returned.Out.Sent, returned.Out.Hops, returned.Out.Value = 15, 3, 2, []byte("a\n\"\xff")
	shard := api.Event{Kind: api.EvShard, Step: 3, Who: 32, Seq: 1, Shard: api.Message{Kind: api.KShard, Seq: 1, Hi: 9, Host: 1}}
	for _, c := range []struct {
		event api.Event
		want  string
	}{
		{begins(0, 1, set(5, "v")), `0: c0 begins set seq=1 key=5 value="v"`},
		{at(math.MaxInt, begins(15, top, get(top))), `9223372036854775807: c15 begins get seq=18446744073709551615 key=18446744073709551615`},
		{begins(1, 2, del(0)), `0: c1 begins delete seq=2 key=0`},
		{begins(1, 2, cas(4, "", "\n")), `0: c1 begins cas seq=2 key=4 old="" value="\n"`},
		{begins(1, 2, create(4, "")), `0: c1 begins cas seq=2 key=4 old=none value=""`},
		{begins(1, 2, scan(4, 9, 16)), `0: c1 begins scan seq=2 key=4 hi=9 limit=16`},
		{at(2, ends(0, 1, api.StOK, "")), `2: c0 ends seq=1 status=ok host=0 sent=1 hops=0 value="" hi=0 pairs=[]`},
		{ends(9, 1, api.StMissing, ""), `0: c9 ends seq=1 status=missing host=0 sent=1 hops=0 value="" hi=0 pairs=[]`},
		{ends(10, 1, api.StDiffers, "v"), `0: c10 ends seq=1 status=differs host=0 sent=1 hops=0 value="v" hi=0 pairs=[]`},
		{ends(0, 1, api.StNoCredit, ""), `0: c0 ends seq=1 status=nocredit host=0 sent=1 hops=0 value="" hi=0 pairs=[]`},
		{at(4, returned), `4: c15 ends seq=7 status=ok host=15 sent=3 hops=2 value="a\n\"\xff" hi=20 pairs=[5:"v5",20:"v20"]`},
		{at(7, givesUp(1, 3)), `7: c1 gives up seq=3`},
		{givesUp(15, top), `0: c15 gives up seq=18446744073709551615`},
		{shard, `3: admin asks h0 shard seq=1 key=0 hi=9 host=1 grant=0 bounds=0`},
		{asks(15, 8), `0: admin asks h15 shard seq=8 key=3 hi=9 host=1 grant=4 bounds=2`},
		{at(6, hears(0, 1, api.StOK)), `6: admin hears h0 done seq=1 status=ok`},
		{hears(15, top, api.StQueue), `0: admin hears h15 done seq=18446744073709551615 status=queue`},
	} {
		if s, e := history.Line(c.event); s != c.want || e != api.OK {
			t.Errorf("Line(%+v): %q, %d; want %q", c.event, s, e, c.want)
		}
		isSame(t, "Line", first(docLine(c.event)), c.want)
	}
}

func first[T any](x T, _ api.Errno) T { return x }

// isEvent holds a line, or its refusal, against the document's.
func isEvent(t *testing.T, e api.Event, mayBe bool) {
	t.Helper()
	s, err := history.Line(e)
	want, wantErr := docLine(e)
	if s != want || err != wantErr || (err == api.OK) != mayBe {
		t.Errorf("Line(%+v): %q, %d; want %q, %d", e, s, err, want, wantErr)
	}
	if mayBe == (s == "") || strings.Contains(s, "\n") {
		t.Errorf("Line(%+v): %q", e, s)
	}
}

func TestP13_1WhoDoesWhat(t *testing.T) {
	for who := range 256 {
		for _, e := range []api.Event{begins(0, 1, get(5)), ends(0, 1, api.StOK, "v"), givesUp(0, 1)} {
			e.Who = api.Addr(who)
			isEvent(t, e, who >= 16 && who < 32)
		}
		for _, e := range []api.Event{asks(2, 1), hears(2, 1, api.StOK)} {
			e.Who = api.Addr(who)
			isEvent(t, e, who == 32)
			e.Who, e.Host = 32, api.Addr(who)
			isEvent(t, e, who < 16)
		}
		e := ends(0, 1, api.StOK, "")
		e.Out.Host = api.Addr(who)
		isEvent(t, e, who < 16)
	}
}

func TestP13_1KindsOfEvents(t *testing.T) {
	whole := api.Event{Who: 16, Seq: 1, Req: get(5), Out: ends(0, 1, api.StOK, "").Out, Shard: asks(2, 1).Shard, Status: api.StOK}
	for kind := range 256 {
		whole.Kind, whole.Who = api.EvKind(kind), 16
		isEvent(t, whole, kind >= 1 && kind <= 3)
		whole.Who = 32
		isEvent(t, whole, kind == 4 || kind == 5)
	}
}

func TestP13_1StepsAndNumbers(t *testing.T) {
	for _, e := range []api.Event{begins(0, 1, get(5)), ends(0, 1, api.StOK, "v"), givesUp(0, 1), asks(2, 1), hears(2, 1, api.StOK)} {
		for _, step := range []int{math.MinInt, -1, 0, 1, math.MaxInt} {
			isEvent(t, at(step, e), step >= 0)
		}
		for _, seq := range []uint64{0, 1, 2, top} {
			e.Seq, e.Out.Seq, e.Shard.Seq = seq, seq, seq
			isEvent(t, e, seq > 0)
		}
	}
	other := ends(0, 1, api.StOK, "")
	other.Out.Seq = 2
	isEvent(t, other, false)
	other.Out.Seq = 0
	isEvent(t, other, false)
	ask := asks(2, 1)
	ask.Shard.Seq = 2
	isEvent(t, ask, false)
}

func TestP13_1Requests(t *testing.T) {
	long := strings.Repeat("x", 65)
	for _, c := range []struct {
		r     api.Request
		mayBe bool
	}{
		{get(0), true}, {get(top), true}, {del(7), true},
		{set(7, ""), true}, {set(7, long[:64]), true}, {set(7, long), false},
		{create(7, long[:64]), true}, {create(7, long), false},
		{cas(7, long[:64], ""), true}, {cas(7, long, ""), false}, {cas(7, "", long), false},
		{scan(7, 7, 1), true}, {scan(7, 6, 1), false}, {scan(0, top, 16), true}, {scan(7, 9, 0), false}, {scan(7, 9, 17), false},
		{api.Request{Kind: api.KGet, Value: []byte("v")}, false},
		{api.Request{Kind: api.KGet, Old: []byte("v")}, false},
		{api.Request{Kind: api.KDelete, Has: true}, false},
		{api.Request{Kind: api.KSet, Hi: 1}, false},
		{api.Request{Kind: api.KSet, Limit: 1}, false},
		{api.Request{Kind: api.KCas, Old: []byte("v")}, false},
		{api.Request{Kind: api.KScan, Hi: 1, Limit: 1, Has: true}, false},
		// These would be messages, but no request's.
		{api.Request{Kind: api.KRedirect, Hi: 1}, false},
		{api.Request{Kind: api.KShard, Hi: 1}, false},
		{api.Request{Kind: api.KAck}, false},
		{api.Request{Kind: api.KDelegate, Hi: 1}, false},
	} {
		isEvent(t, begins(0, 1, c.r), c.mayBe)
	}
	for kind := range 256 {
		isEvent(t, begins(0, 1, api.Request{Kind: api.Kind(kind)}), kind >= 1 && kind <= 4)
		isEvent(t, begins(0, 1, api.Request{Kind: api.Kind(kind), Hi: 9, Limit: 1}), kind == 5)
	}
}

func TestP13_1Outcomes(t *testing.T) {
	for status := range 256 {
		isEvent(t, ends(0, 1, api.Status(status), ""), status >= 1 && status <= 4)
		isEvent(t, hears(0, 1, api.Status(status)), slices.Contains(docDones, api.Status(status)))
		e := ends(0, 1, api.StOK, "")
		e.Out.Phase = api.Phase(status)
		isEvent(t, e, status == int(api.PhDone))
	}
	for _, n := range []int{math.MinInt, -1, 0, 1, 2, math.MaxInt} {
		e := ends(0, 1, api.StOK, "")
		e.Out.Sent = n
		isEvent(t, e, n >= 1)
		e.Out.Sent, e.Out.Hops = 1, n
		isEvent(t, e, n >= 0)
	}
	for _, size := range []int{0, 1, 63, 64, 65, 5000} {
		isEvent(t, ends(0, 1, api.StMissing, strings.Repeat("x", size)), size <= 64)
		e := scanEnds(0, 1, 9, 3, 4)
		e.Out.Pairs[1].Value = make([]byte, size)
		isEvent(t, e, size <= 64)
	}
}

func TestP13_1Pairs(t *testing.T) {
	rising := func(n uint64) []uint64 {
		var keys []uint64
		for key := range n {
			keys = append(keys, key)
		}
		return keys
	}
	for _, c := range []struct {
		hi    uint64
		keys  []uint64
		mayBe bool
	}{
		{0, nil, true}, {top, nil, true}, {0, []uint64{0}, true}, {0, []uint64{1}, false},
		{9, []uint64{8, 9}, true}, {9, []uint64{9, 10}, false}, {9, []uint64{8, 8}, false}, {9, []uint64{8, 7}, false},
		{top, []uint64{0, top}, true},
		{20, rising(16), true}, {20, rising(17), false}, {15, rising(16), true}, {14, rising(16), false},
	} {
		isEvent(t, scanEnds(0, 1, c.hi, c.keys...), c.mayBe)
	}
}

func TestP13_1Shards(t *testing.T) {
	for _, change := range []func(m *api.Message){
		func(m *api.Message) { m.Kind = api.KRedirect },
		func(m *api.Message) { m.Kind, m.Hi, m.Host, m.Grant, m.Bounds = api.KGet, 0, 0, 0, 0 },
		func(m *api.Message) { m.Kind = 0 },
		func(m *api.Message) { m.Hi = m.Key - 1 },
		func(m *api.Message) { m.Host = 16 },
		func(m *api.Message) { m.Grant = 65536 },
		func(m *api.Message) { m.Bounds = 65536 },
		func(m *api.Message) { m.Value = []byte("v") },
		func(m *api.Message) { m.Limit = 1 },
		func(m *api.Message) { m.Pairs = []api.Pair{{Key: 4}} },
	} {
		e := asks(2, 1)
		isEvent(t, e, true)
		change(&e.Shard)
		isEvent(t, e, false)
	}
	e := asks(2, 1)
	e.Shard.Hi, e.Shard.Host, e.Shard.Grant, e.Shard.Bounds = e.Shard.Key, 15, 65535, 65535
	isEvent(t, e, true)
}

// A redirect in place of a shard has no fields that it may not have.
func TestP13_1ARedirectIsNoShard(t *testing.T) {
	e := asks(2, 1)
	e.Shard = api.Message{Kind: api.KRedirect, Seq: 1, Key: 3, Hi: 9, Host: 1}
	isEvent(t, e, false)
}

// Fields that the chapter does not name for a kind are not looked at.
func TestP13_1OtherFieldsAreNotLookedAt(t *testing.T) {
	junk := api.Event{
		Req:    api.Request{Kind: 99, Hi: 3, Value: make([]byte, 99)},
		Out:    api.Outcome{Phase: 9, Seq: 77, Status: 99, Value: make([]byte, 99), Pairs: []api.Pair{{Key: 9}, {Key: 9}}, Host: 99, Sent: -4, Hops: -4},
		Host:   99,
		Shard:  api.Message{Kind: 77, Seq: 88, Host: 99},
		Status: 99,
	}
	for _, e := range []api.Event{begins(0, 1, get(5)), ends(0, 1, api.StOK, "v"), givesUp(0, 1), asks(2, 1), hears(2, 1, api.StOK)} {
		want, _ := history.Line(e)
		full := junk
		full.Kind, full.Step, full.Who, full.Seq = e.Kind, e.Step, e.Who, e.Seq
		switch e.Kind {
		case api.EvInvoke:
			full.Req = e.Req
		case api.EvReturn:
			full.Out = e.Out
		case api.EvShard:
			full.Host, full.Shard = e.Host, e.Shard
		case api.EvDone:
			full.Host, full.Status = e.Host, e.Status
		}
		if s, err := history.Line(full); s != want || err != api.OK {
			t.Errorf("Line(%+v): %q, %d; want %q", full, s, err, want)
		}
	}
}

func TestP13_1RandomEvents(t *testing.T) {
	d, may := diceOf(1), 0
	for i := range 20000 {
		e := d.log(3)[2]
		for range d.Intn(3) {
			d.spoilEvent(&e)
		}
		_, err := docLine(e)
		isEvent(t, e, err == api.OK)
		if err == api.OK {
			may++
		}
		if t.Failed() {
			t.Fatal(fmt.Sprint("event ", i))
		}
	}
	if may < 5000 || may > 18000 {
		t.Errorf("%d events may be", may)
	}
}
