package wire_test

import (
	"math/rand"
	"reflect"
	"slices"
	"testing"

	"shard/api"
	"shard/wire"
)

// refusedAlike asks all calls that begin with Check.
func refusedAlike(t *testing.T, m api.Message, want api.Errno) {
	t.Helper()
	if e := wire.Check(m); e != want {
		t.Errorf("Check(%+v) = %v, want %v", m, e, want)
	}
	b, e := wire.Marshal(m)
	if e != want || (e != api.OK) != (len(b) == 0) {
		t.Errorf("Marshal(%+v): %d bytes, %v, want %v", m, len(b), e, want)
	}
	if n, e := wire.Size(m); e != want || n != len(b) {
		t.Errorf("Size(%+v) = %d, %v, want %d, %v", m, n, e, len(b), want)
	}
	s, e := wire.Print(m)
	if e != want || (e != api.OK) != (s == "") {
		t.Errorf("Print(%+v) = %q, %v, want %v", m, s, e, want)
	}
}

func TestP3_4KindsThatAreNone(t *testing.T) {
	for _, kind := range []api.Kind{0, 13, 14, 128, 255} {
		refusedAlike(t, api.Message{Kind: kind}, api.ErrKind)
		refusedAlike(t, api.Message{Kind: kind, Seq: 1, Key: 5}, api.ErrKind)
		// All faults at once: the kind is told.
		refusedAlike(t, api.Message{Kind: kind, Key: 2, Hi: 1, Value: bytesOf(65), Pairs: []api.Pair{{Key: 3}, {Key: 2}}}, api.ErrKind)
	}
}

// Each field of a message, made other than zero, in messages of all kinds.
func TestP3_4FieldsThatAreNotUsed(t *testing.T) {
	fill := map[string]any{
		"Seq": uint64(1), "Key": uint64(1), "Hi": uint64(most), "Value": []byte{1}, "Old": []byte{1}, "Has": true, "Of": api.KGet,
		"Status": api.StOK, "Host": api.Addr(1), "Grant": uint32(1), "Bounds": uint32(1), "Mask": uint64(1), "Limit": uint8(1),
		"Pairs": []api.Pair{{Key: most}}, "Sessions": []api.Session{{Client: 16, Seq: 1, Status: api.StOK}}, "Payload": []byte{1},
	}
	if n := reflect.TypeFor[api.Message]().NumField(); len(fill) != n-1 {
		t.Fatalf("a message has %d fields", n)
	}
	rnd := rand.New(rand.NewSource(34))
	for _, m := range samples(rnd, 30) {
		uses := docUses(m)
		for name, x := range fill {
			bad := m
			reflect.ValueOf(&bad).Elem().FieldByName(name).Set(reflect.ValueOf(x))
			if !slices.Contains(uses, name) {
				refusedAlike(t, bad, api.ErrField)
			}
		}
		// Lists that are empty, but not nil, are as good as none.
		for _, name := range []string{"Value", "Old", "Pairs", "Sessions", "Payload"} {
			if f := reflect.ValueOf(&m).Elem().FieldByName(name); f.Len() == 0 {
				f.Set(reflect.MakeSlice(f.Type(), 0, 3))
			}
		}
		refusedAlike(t, m, api.OK)
	}
}

func pairsOf(keys ...uint64) []api.Pair {
	var out []api.Pair
	for _, k := range keys {
		out = append(out, api.Pair{Key: k, Value: []byte("v")})
	}
	return out
}

func sessionsOf(clients ...api.Addr) []api.Session {
	var out []api.Session
	for _, c := range clients {
		out = append(out, api.Session{Client: c, Seq: 1, Status: api.StOK})
	}
	return out
}

func upTo(n uint64) []uint64 {
	var out []uint64
	for i := range n {
		out = append(out, i)
	}
	return out
}

func TestP3_4EdgesOfEachRule(t *testing.T) {
	ok, field, order := api.OK, api.ErrField, api.ErrOrder
	scan := func(hi uint64, l []api.Pair) api.Message {
		return api.Message{Kind: api.KReply, Seq: 1, Of: api.KScan, Status: api.StOK, Hi: hi, Pairs: l}
	}
	delegate := func(l []api.Pair, s ...api.Session) api.Message {
		return api.Message{Kind: api.KDelegate, Key: 10, Hi: 50, Pairs: l, Sessions: s}
	}
	long := api.Pair{Key: 20, Value: bytesOf(65)}
	manyPairs := pairsOf(upTo(41)[10:]...)
	for _, c := range []struct {
		m api.Message
		e api.Errno
	}{
		{api.Message{Kind: api.KGet}, field}, {api.Message{Kind: api.KGet, Seq: 1}, ok}, {api.Message{Kind: api.KGet, Seq: most, Key: most}, ok},
		{api.Message{Kind: api.KAck}, ok}, {api.Message{Kind: api.KAck, Mask: most}, ok},
		{api.Message{Kind: api.KSet, Seq: 1, Value: bytesOf(64)}, ok}, {api.Message{Kind: api.KSet, Seq: 1, Value: bytesOf(65)}, field}, {api.Message{Kind: api.KSet, Seq: 1}, ok},
		{api.Message{Kind: api.KCas, Seq: 1}, ok}, {api.Message{Kind: api.KCas, Seq: 1, Has: true}, ok}, {api.Message{Kind: api.KCas, Seq: 1, Old: bytesOf(1)}, field},
		{api.Message{Kind: api.KCas, Seq: 1, Has: true, Old: bytesOf(64)}, ok}, {api.Message{Kind: api.KCas, Seq: 1, Has: true, Old: bytesOf(65)}, field}, {api.Message{Kind: api.KCas, Seq: 1, Value: bytesOf(65)}, field},
		{api.Message{Kind: api.KScan, Seq: 1, Key: 5, Hi: 4, Limit: 1}, field}, {api.Message{Kind: api.KScan, Seq: 1, Key: 5, Hi: 5, Limit: 1}, ok},
		{api.Message{Kind: api.KScan, Seq: 1}, field}, {api.Message{Kind: api.KScan, Seq: 1, Limit: 16}, ok}, {api.Message{Kind: api.KScan, Seq: 1, Limit: 17}, field}, {api.Message{Kind: api.KScan, Seq: 1, Limit: 255}, field},
		{api.Message{Kind: api.KRedirect, Seq: 1, Host: 15}, ok}, {api.Message{Kind: api.KRedirect, Seq: 1, Host: 16}, field}, {api.Message{Kind: api.KRedirect, Seq: 1, Host: 255}, field}, {api.Message{Kind: api.KRedirect, Seq: 1, Key: 1}, field},
		{api.Message{Kind: api.KShard, Seq: 1, Grant: 65535, Bounds: 65535}, ok}, {api.Message{Kind: api.KShard, Seq: 1, Grant: 65536}, field}, {api.Message{Kind: api.KShard, Seq: 1, Bounds: 65536}, field},
		{api.Message{Kind: api.KShard, Seq: 1, Grant: 1<<32 - 1}, field}, {api.Message{Kind: api.KShard, Seq: 1, Host: 16}, field}, {api.Message{Kind: api.KShard, Seq: 1, Key: most, Hi: most - 1}, field},
		{api.Message{Kind: api.KData, Seq: 1}, field}, {api.Message{Kind: api.KData, Seq: 1, Payload: bytesOf(1)}, ok}, {api.Message{Kind: api.KData, Seq: 1, Payload: bytesOf(3072)}, ok}, {api.Message{Kind: api.KData, Seq: 1, Payload: bytesOf(3073)}, field},
		{api.Message{Kind: api.KDelegate, Key: 1}, field}, {api.Message{Kind: api.KDelegate, Grant: 65536}, field}, {api.Message{Kind: api.KDelegate, Bounds: 65536}, field}, {api.Message{Kind: api.KDelegate, Grant: 65535, Bounds: 65535}, ok},

		{scan(0, nil), ok}, {scan(0, pairsOf(0)), ok}, {scan(9, pairsOf(0, 9)), ok}, {scan(9, pairsOf(0, 10)), order}, {scan(9, pairsOf(3, 3)), order}, {scan(9, pairsOf(4, 3)), order}, {scan(most, pairsOf(0, most)), ok},
		{scan(99, pairsOf(upTo(16)...)), ok}, {scan(99, pairsOf(upTo(17)...)), field}, {scan(9, []api.Pair{{Key: 99}, long}), field}, {scan(9, []api.Pair{{Key: 1, Value: bytesOf(64)}}), ok},
		{delegate(pairsOf(10, 50)), ok}, {delegate(pairsOf(9)), order}, {delegate(pairsOf(51)), order}, {delegate(pairsOf(12, 10)), order}, {delegate(pairsOf(12, 12)), order},
		{delegate(append(pairsOf(12), api.Pair{Key: 10, Value: bytesOf(65)})), field}, {delegate(append(pairsOf(12, 10), long)), field},
		{delegate(append(manyPairs, pairsOf(41)...)), ok}, {delegate(append(manyPairs, pairsOf(41, 42)...)), field},
		{delegate(nil, sessionsOf(16, 31)...), ok}, {delegate(nil, sessionsOf(15)...), field}, {delegate(nil, sessionsOf(32)...), field}, {delegate(nil, sessionsOf(17, 16)...), order}, {delegate(nil, sessionsOf(16, 16)...), order}, {delegate(nil, sessionsOf(17, 40, 16)...), field}, {delegate(nil, sessionsOf(17, 16, 40)...), field}, {delegate(nil, sessionsOf(16, 18, 17)...), order},
		{delegate(nil, sessionsOf(16, 17, 18, 19, 20, 21, 22, 23, 24, 25, 26, 27, 28, 29, 30, 31)...), ok}, {delegate(nil, sessionsOf(16, 17, 18, 19, 20, 21, 22, 23, 24, 25, 26, 27, 28, 29, 30, 31, 31)...), field},
		{delegate(nil, api.Session{Client: 16, Status: api.StOK}), field}, {delegate(nil, api.Session{Client: 16, Seq: 1}), field}, {delegate(nil, api.Session{Client: 16, Seq: 1, Status: api.StNoBound}), field}, {delegate(nil, api.Session{Client: 16, Seq: 1, Status: api.StNoCredit}), ok},
		// A fault of a field comes ahead of one of order, wherever it stands.
		{delegate(pairsOf(12, 10), sessionsOf(15)...), field}, {delegate([]api.Pair{long}, sessionsOf(17, 16)...), field}, {delegate(pairsOf(12, 10), sessionsOf(17, 16)...), order},
		{api.Message{Kind: api.KDelegate, Key: 5, Hi: 4, Pairs: pairsOf(7, 6)}, field}, {api.Message{Kind: api.KDelegate, Seq: 1, Hi: 4, Pairs: pairsOf(7, 6)}, field}, {api.Message{Kind: api.KDelegate, Hi: 4, Pairs: pairsOf(7, 6), Payload: bytesOf(1)}, field},
		// The chapter's third example.
		{api.Message{Kind: api.KGet, Seq: 1, Value: bytesOf(1)}, field},
	} {
		refusedAlike(t, c.m, c.e)
		if e := docCheck(c.m); e != c.e {
			t.Errorf("the oracle on %+v: %v", c.m, e)
		}
	}
}

func TestP3_4StatusOfEachKind(t *testing.T) {
	for status := range api.Status(14) {
		for asked := range api.Kind(14) {
			m := api.Message{Kind: api.KReply, Seq: 1, Of: asked, Status: status}
			refusedAlike(t, m, docCheck(m))
			m.Value = []byte("v")
			refusedAlike(t, m, docCheck(m))
		}
		m := api.Message{Kind: api.KDone, Seq: 1, Status: status}
		refusedAlike(t, m, docCheck(m))
		m = api.Message{Kind: api.KDelegate, Sessions: []api.Session{{Client: 20, Seq: 2, Status: status}}}
		refusedAlike(t, m, docCheck(m))
	}
}

// bent gives a message that the rules allow another value in one of its fields.
func bent(rnd *rand.Rand, m api.Message) api.Message {
	m = flat(m)
	v := reflect.ValueOf(&m).Elem()
	f := v.Field(rnd.Intn(v.NumField()))
	switch f.Kind() {
	case reflect.Bool:
		f.SetBool(!f.Bool())
	case reflect.Slice:
		bendList(rnd, &m)
	default:
		f.SetUint(pick(rnd, []uint64{0, 1, 2, 12, 13, 15, 16, 17, f.Uint() + 1, f.Uint() - 1, 65535, 65536, most}))
	}
	return m
}

func bendList(rnd *rand.Rand, m *api.Message) {
	edges := []int{0, 1, 63, 64, 65, 3072, 3073}
	switch rnd.Intn(7) {
	case 0:
		m.Value = bytesOf(pick(rnd, edges))
	case 1:
		m.Old = bytesOf(pick(rnd, edges))
	case 2:
		m.Payload = bytesOf(pick(rnd, edges))
	case 3:
		if len(m.Pairs) > 0 {
			p := &m.Pairs[rnd.Intn(len(m.Pairs))]
			*p = pick(rnd, []api.Pair{{Key: p.Key, Value: bytesOf(65)}, {Key: p.Key + 1}, {Key: p.Key - 1}, {Key: m.Hi + 1}, {Key: m.Key - 1}})
		}
	case 4:
		for range pick(rnd, []int{1, 20, 40}) {
			m.Pairs = append(m.Pairs, api.Pair{Key: randomNumber(rnd)})
		}
	case 5:
		if len(m.Sessions) > 0 {
			s := &m.Sessions[rnd.Intn(len(m.Sessions))]
			*s = pick(rnd, []api.Session{{Client: s.Client + 1, Seq: s.Seq, Status: s.Status}, {Client: s.Client - 1, Seq: s.Seq, Status: s.Status}, {Client: s.Client, Status: s.Status}, {Client: s.Client, Seq: s.Seq, Status: s.Status + 1}})
		}
	default:
		m.Sessions = append(m.Sessions, sessionsOf(api.Addr(14+rnd.Intn(20)))...)
	}
}

func TestP3_4CheckSaysWhatTheRulesSay(t *testing.T) {
	rnd := rand.New(rand.NewSource(304))
	told := map[api.Errno]int{}
	for _, m := range samples(rnd, 4000) {
		if e := wire.Check(m); e != api.OK {
			t.Fatalf("Check(%+v) = %v", m, e)
		}
		for range 2 {
			m = bent(rnd, m)
			e := docCheck(m)
			told[e]++
			if got := wire.Check(m); got != e {
				t.Fatalf("Check(%+v) = %v, want %v", m, got, e)
			}
		}
	}
	for _, e := range []api.Errno{api.OK, api.ErrKind, api.ErrField, api.ErrOrder} {
		if told[e] < 300 {
			t.Errorf("only %d messages were to be told %v", told[e], e)
		}
	}
}
