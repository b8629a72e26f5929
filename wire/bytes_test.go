package wire_test

import (
	"bytes"
	"math/rand"
	"slices"
	"testing"

	"shard/api"
	"shard/wire"
)

func TestP3_5BytesOfTheExamples(t *testing.T) {
	for _, c := range []struct {
		m    api.Message
		body []byte
		size int
	}{
		{api.Message{Kind: api.KGet, Seq: 1, Key: 5}, []byte{83, 1, 1, 1, 0, 0, 0, 0, 0, 0, 0, 5}, 16},
		{api.Message{Kind: api.KSet, Seq: 300, Key: 1, Value: []byte("hi")}, []byte{83, 1, 2, 172, 2, 0, 0, 0, 0, 0, 0, 0, 1, 2, 104, 105}, 20},
		{api.Message{Kind: api.KAck}, []byte{83, 1, 11, 0, 0, 0, 0, 0, 0, 0, 0, 0}, 16},
		{api.Message{Kind: api.KDelegate, Key: 10, Hi: 29, Grant: 3, Pairs: []api.Pair{{Key: 10, Value: []byte("a")}, {Key: 12, Value: []byte("bc")}}}, []byte{83, 1, 12, 0, 0, 0, 0, 0, 0, 0, 10, 19, 3, 0, 2, 0, 1, 97, 1, 2, 98, 99, 0}, 27},
	} {
		b, e := wire.Marshal(c.m)
		if e != api.OK || !bytes.Equal(b, seal(c.body)) || len(b) != c.size {
			t.Errorf("Marshal(%+v) = %v, %v", c.m, b, e)
		}
		if n, e := wire.Size(c.m); n != c.size || e != api.OK {
			t.Errorf("Size(%+v) = %d, %v", c.m, n, e)
		}
	}
}

func TestP3_5BytesOfAllKinds(t *testing.T) {
	rnd := rand.New(rand.NewSource(305))
	for _, m := range samples(rnd, 1000) {
		b, e := wire.Marshal(m)
		if want := docMarshal(m); e != api.OK || !bytes.Equal(b, want) {
			t.Fatalf("Marshal(%+v) = %v, %v, want %v", m, b, e, want)
		}
		if n, e := wire.Size(m); n != len(b) || e != api.OK {
			t.Fatalf("Size(%+v) = %d, %v, want %d", m, n, e, len(b))
		}
		if len(b) > api.MaxMessage {
			t.Fatalf("Marshal(%+v) gives %d bytes", m, len(b))
		}
	}
}

func parsesTo(t *testing.T, b []byte, at int, e api.Errno) {
	t.Helper()
	m, gotAt, got := wire.Parse(b)
	if gotAt != at || got != e {
		t.Errorf("Parse(%v) = %d, %v, want %d, %v", b, gotAt, got, at, e)
	}
	if e != api.OK && !isZero(m) {
		t.Errorf("Parse(%v): %v with the message %+v", b, e, m)
	}
	if _, at2, e2 := docParse(b); at2 != at || e2 != e {
		t.Errorf("the oracle on %v: %d, %v", b, at2, e2)
	}
}

func TestP3_6EndsOfThePacket(t *testing.T) {
	get := seal([]byte{83, 1, 1, 1, 0, 0, 0, 0, 0, 0, 0, 5})
	parsesTo(t, get, 0, api.OK)
	for n := range 7 {
		parsesTo(t, get[:n], n, api.ErrShape)
		parsesTo(t, make([]byte, n), n, api.ErrShape)
	}
	parsesTo(t, nil, 0, api.ErrShape)
	parsesTo(t, []byte{83, 1, 1, 0, 0, 0}, 6, api.ErrShape)
	parsesTo(t, make([]byte, 4097), 0, api.ErrBig)
	parsesTo(t, seal(append(slices.Clone(get[:3]), make([]byte, 4090)...)), 0, api.ErrBig)
	parsesTo(t, make([]byte, 4096), 0, api.ErrMagic)
	parsesTo(t, append([]byte{83, 1, 1}, make([]byte, 4093)...), 4092, api.ErrSum)
	parsesTo(t, seal(append([]byte{83, 1, 1, 1}, make([]byte, 4088)...)), 12, api.ErrShape)
	parsesTo(t, []byte{84, 9, 1, 0, 0, 0, 0}, 0, api.ErrMagic)
	parsesTo(t, seal([]byte{84, 1, 1}), 0, api.ErrMagic)
	for version := range 256 {
		if version != 1 {
			parsesTo(t, []byte{83, byte(version), 1, 0, 0, 0, 0}, 1, api.ErrVersion)
			parsesTo(t, seal([]byte{83, byte(version), 1}), 1, api.ErrVersion)
		}
	}
	for i := range 4 {
		bad := slices.Clone(get)
		bad[12+i]++
		parsesTo(t, bad, 12, api.ErrSum)
	}
	swapped := slices.Clone(get)
	slices.Reverse(swapped[12:])
	parsesTo(t, swapped, 12, api.ErrSum)
	// A wrong sum comes ahead of a wrong kind, a wrong kind ahead of all of the body.
	parsesTo(t, []byte{83, 1, 0, 0, 0, 0, 0}, 3, api.ErrSum)
	for kind := range 256 {
		if kind < 1 || kind > 12 {
			parsesTo(t, seal([]byte{83, 1, byte(kind)}), 2, api.ErrKind)
			parsesTo(t, seal([]byte{83, 1, byte(kind), 1, 2, 3, 4}), 2, api.ErrKind)
		} else {
			parsesTo(t, seal([]byte{83, 1, byte(kind)}), 3, api.ErrShape)
		}
	}
}

// packet is a body with its head and sum: numbers are bytes.
func packet(kind api.Kind, parts ...any) []byte {
	b := []byte{83, 1, byte(kind)}
	for _, p := range parts {
		switch x := p.(type) {
		case int:
			b = append(b, byte(x))
		case []byte:
			b = append(b, x...)
		}
	}
	return seal(b)
}

func TestP3_6FaultsOfEachField(t *testing.T) {
	key := []byte{0, 0, 0, 0, 0, 0, 0, 10}
	top := bytes.Repeat([]byte{255}, 8)
	wide := []byte{255, 255, 255, 255, 255, 255, 255, 255, 255, 2}
	long := bytesOf(65)
	ok, shape, field, order := api.OK, api.ErrShape, api.ErrField, api.ErrOrder
	for _, c := range []struct {
		b  []byte
		at int
		e  api.Errno
	}{
		// The chapter's ninth example.
		{packet(api.KGet, 129, 0, key), 3, shape}, {packet(api.KGet, 0, key), 3, field}, {packet(api.KGet, 1, key, 0), 12, shape},

		{packet(api.KGet, wide, key), 3, shape}, {packet(api.KGet, 128), 3, shape}, {packet(api.KGet, 128, 1, key[:7]), 5, shape}, {packet(api.KGet, 1), 4, shape},
		{packet(api.KSet, 1, key), 12, shape}, {packet(api.KSet, 1, key, 64, long[:64]), 0, ok}, {packet(api.KSet, 1, key, 65, long), 12, shape}, {packet(api.KSet, 1, key, 2, 0), 12, shape}, {packet(api.KSet, 1, key, 130, 0, 1, 1), 12, shape}, {packet(api.KSet, 1, key, 0, 0), 13, shape},
		{packet(api.KCas, 1, key), 12, shape}, {packet(api.KCas, 1, key, 2, 0, 0), 12, shape}, {packet(api.KCas, 1, key, 0), 13, shape}, {packet(api.KCas, 1, key, 0, 0), 0, ok}, {packet(api.KCas, 1, key, 1), 13, shape}, {packet(api.KCas, 1, key, 1, 65, long, 0), 13, shape}, {packet(api.KCas, 1, key, 1, 64, long[:64], 0), 0, ok}, {packet(api.KCas, 1, key, 1, 1, 7), 15, shape}, {packet(api.KCas, 1, key, 1, 0, 65, long), 14, shape}, {packet(api.KCas, 1, key, 0, 65, long), 13, shape},
		{packet(api.KScan, 1, key), 12, shape}, {packet(api.KScan, 1, key, 0), 13, shape}, {packet(api.KScan, 1, key, 0, 0), 13, field}, {packet(api.KScan, 1, key, 0, 1), 0, ok}, {packet(api.KScan, 1, key, 0, 16), 0, ok}, {packet(api.KScan, 1, key, 0, 17), 13, field}, {packet(api.KScan, 1, key, 128, 0, 1), 12, shape},
		{packet(api.KScan, 1, key, []byte{245, 255, 255, 255, 255, 255, 255, 255, 255, 1}, 1), 0, ok}, {packet(api.KScan, 1, key, []byte{246, 255, 255, 255, 255, 255, 255, 255, 255, 1}, 1), 12, field}, {packet(api.KScan, 1, key, wide, 1), 12, shape}, {packet(api.KScan, 1, top, 0, 1), 0, ok}, {packet(api.KScan, 1, top, 1, 1), 12, field},
		{packet(api.KReply, 1), 4, shape}, {packet(api.KReply, 1, 0, 1), 4, field}, {packet(api.KReply, 1, 6, 1), 4, field}, {packet(api.KReply, 1, 255, 1), 4, field}, {packet(api.KReply, 1, 1), 5, shape}, {packet(api.KReply, 1, 1, 0), 5, field}, {packet(api.KReply, 1, 1, 3), 5, field}, {packet(api.KReply, 1, 1, 1), 6, shape}, {packet(api.KReply, 1, 1, 1, 65, long), 6, shape}, {packet(api.KReply, 1, 1, 2), 0, ok}, {packet(api.KReply, 1, 1, 2, 0), 6, shape}, {packet(api.KReply, 1, 2, 1, 0), 6, shape}, {packet(api.KReply, 1, 5, 2), 5, field},
		{packet(api.KReply, 1, 5, 1), 6, shape}, {packet(api.KReply, 1, 5, 1, key), 14, shape}, {packet(api.KReply, 1, 5, 1, key, 0), 0, ok}, {packet(api.KReply, 1, 5, 1, key, 17), 14, shape}, {packet(api.KReply, 1, 5, 1, key, 144, 0), 14, shape}, {packet(api.KReply, 1, 5, 1, key, 1), 15, shape}, {packet(api.KReply, 1, 5, 1, key, 1, 10, 0), 0, ok}, {packet(api.KReply, 1, 5, 1, key, 1, 11, 0), 15, order}, {packet(api.KReply, 1, 5, 1, key, 1, 11), 15, order}, {packet(api.KReply, 1, 5, 1, key, 1, 10), 16, shape}, {packet(api.KReply, 1, 5, 1, key, 1, 10, 65, long), 16, shape}, {packet(api.KReply, 1, 5, 1, key, 2, 9, 0, 0, 0), 0, ok}, {packet(api.KReply, 1, 5, 1, key, 2, 9, 0, 1, 0), 17, order}, {packet(api.KReply, 1, 5, 1, key, 2, 9, 0), 17, shape}, {packet(api.KReply, 1, 5, 1, key, 2, 9, 0, 128, 0), 17, shape},
		{packet(api.KReply, 1, 5, 1, top, 2, 0, 0, wide[:9], 1, 0), 17, order}, {packet(api.KReply, 1, 5, 1, top, 2, 0, 0, 254, wide[:8], 1, 0), 0, ok}, {packet(api.KReply, 1, 5, 1, top, 2, wide[:9], 1, 0, 0, 0), 26, order}, {packet(api.KReply, 1, 5, 1, top, 2, wide[:9], 1, 0, wide[:9], 1, 0), 26, order},
		{packet(api.KRedirect, 1, key, 0), 13, shape}, {packet(api.KRedirect, 1, key, 0, 15), 0, ok}, {packet(api.KRedirect, 1, key, 0, 16), 13, field},
		{packet(api.KShard, 1, key, 0, 16, 0, 0), 13, field}, {packet(api.KShard, 1, key, 0, 0), 14, shape}, {packet(api.KShard, 1, key, 0, 0, 255, 255, 3, 0), 0, ok}, {packet(api.KShard, 1, key, 0, 0, 128, 128, 4, 0), 14, field}, {packet(api.KShard, 1, key, 0, 0, 0, 255, 255, 3), 0, ok}, {packet(api.KShard, 1, key, 0, 0, 0, 128, 128, 4), 15, field}, {packet(api.KShard, 1, key, 0, 0, 128, 128, 128, 128, 16, 0), 14, field}, {packet(api.KShard, 1, key, 0, 0, 0, 128, 128, 128, 128, 16), 15, field}, {packet(api.KShard, 1, key, 0, 0, 0), 15, shape},
		{packet(api.KDone, 1), 4, shape}, {packet(api.KDone, 1, 0), 4, field}, {packet(api.KDone, 1, 1), 0, ok}, {packet(api.KDone, 1, 2), 4, field}, {packet(api.KDone, 1, 3), 4, field}, {packet(api.KDone, 1, 4), 0, ok}, {packet(api.KDone, 1, 10), 0, ok}, {packet(api.KDone, 1, 11), 4, field},
		{packet(api.KData, 1), 4, shape}, {packet(api.KData, 1, 0), 4, field}, {packet(api.KData, 1, 128, 24, bytesOf(3072)), 0, ok}, {packet(api.KData, 1, 129, 24, bytesOf(3073)), 4, shape}, {packet(api.KData, 1, 2, 9), 4, shape},
		{packet(api.KAck, 0, key), 0, ok}, {packet(api.KAck, 0, key[:7]), 4, shape}, {packet(api.KAck, 128, 0, key), 3, shape},
		{packet(api.KDelegate, key[:7]), 3, shape}, {packet(api.KDelegate, key), 11, shape}, {packet(api.KDelegate, top, 1), 11, field}, {packet(api.KDelegate, key, 19, 128, 128, 4), 12, field}, {packet(api.KDelegate, key, 19, 0, 128, 128, 4), 13, field}, {packet(api.KDelegate, key, 19, 0, 0), 14, shape}, {packet(api.KDelegate, key, 19, 0, 0, 33), 14, shape}, {packet(api.KDelegate, key, 19, 0, 0, 32), 15, shape},
		{packet(api.KDelegate, key, 19, 0, 0, 1, 19, 0, 0), 0, ok}, {packet(api.KDelegate, key, 19, 0, 0, 1, 20, 0, 0), 15, order}, {packet(api.KDelegate, key, 19, 0, 0, 2, 0, 0, 18, 0, 0), 0, ok}, {packet(api.KDelegate, key, 19, 0, 0, 2, 0, 0, 19, 0, 0), 17, order}, {packet(api.KDelegate, key, 19, 0, 0, 2, 0, 0, wide[:9], 1, 0, 0), 17, order}, {packet(api.KDelegate, key, 19, 0, 0, 2, 0, 0, 0, 65, long, 0), 18, shape}, {packet(api.KDelegate, top, 0, 0, 0, 2, 0, 0, 0, 0, 0), 17, order},
		{packet(api.KDelegate, key, 19, 0, 0, 0), 15, shape}, {packet(api.KDelegate, key, 19, 0, 0, 0, 0), 0, ok}, {packet(api.KDelegate, key, 19, 0, 0, 0, 17), 15, shape}, {packet(api.KDelegate, key, 19, 0, 0, 0, 16), 16, shape}, {packet(api.KDelegate, key, 19, 0, 0, 0, 1, 15, 1, 1), 16, field}, {packet(api.KDelegate, key, 19, 0, 0, 0, 1, 32, 1, 1), 16, field}, {packet(api.KDelegate, key, 19, 0, 0, 0, 1, 31, 1, 4), 0, ok}, {packet(api.KDelegate, key, 19, 0, 0, 0, 1, 16), 17, shape}, {packet(api.KDelegate, key, 19, 0, 0, 0, 1, 16, 0, 1), 17, field}, {packet(api.KDelegate, key, 19, 0, 0, 0, 1, 16, 1), 18, shape}, {packet(api.KDelegate, key, 19, 0, 0, 0, 1, 16, 1, 0), 18, field}, {packet(api.KDelegate, key, 19, 0, 0, 0, 1, 16, 1, 5), 18, field},
		{packet(api.KDelegate, key, 19, 0, 0, 0, 2, 17, 1, 1, 17, 1, 1), 19, order}, {packet(api.KDelegate, key, 19, 0, 0, 0, 2, 17, 1, 1, 16, 0, 0), 19, order}, {packet(api.KDelegate, key, 19, 0, 0, 0, 2, 17, 1, 1, 15, 1, 1), 19, field}, {packet(api.KDelegate, key, 19, 0, 0, 0, 2, 17, 1, 1, 32, 1, 1), 19, field}, {packet(api.KDelegate, key, 19, 0, 0, 0, 2, 17, 1, 1, 18, 1, 1), 0, ok}, {packet(api.KDelegate, key, 19, 0, 0, 0, 1, 17, 1, 1, 7), 19, shape},
	} {
		parsesTo(t, c.b, c.at, c.e)
	}
}

// torn changes some bytes of a body, and lays a right sum behind it.
func torn(rnd *rand.Rand, b []byte) []byte {
	body := slices.Clone(b[:len(b)-4])
	for range 1 + rnd.Intn(2) {
		at := 3 + rnd.Intn(len(body)-2)
		x := pick(rnd, []byte{0, 1, 2, 5, 10, 15, 16, 17, 31, 32, 33, 64, 65, 127, 128, 129, 254, 255, byte(rnd.Intn(256))})
		switch {
		case at == len(body):
			body = append(body, x)
		case rnd.Intn(8) == 0:
			body = body[:at]
		case rnd.Intn(6) == 0:
			body = slices.Delete(body, at, at+1)
		case rnd.Intn(6) == 0:
			body = slices.Insert(body, at, x)
		case rnd.Intn(3) == 0:
			body[at] += x
		default:
			body[at] = x
		}
		if len(body) == 3 {
			break
		}
	}
	if rnd.Intn(10) == 0 {
		body[2] = byte(1 + rnd.Intn(13))
	}
	return seal(body)
}

func TestP3_6ParseSaysWhatTheRulesSay(t *testing.T) {
	rnd := rand.New(rand.NewSource(306))
	told := map[api.Errno]int{}
	for _, m := range samples(rnd, 600) {
		b := docMarshal(m)
		for range 20 {
			bad := torn(rnd, b)
			want, at, e := docParse(bad)
			told[e]++
			got, gotAt, gotE := wire.Parse(bad)
			if gotAt != at || gotE != e || !alike(got, want) {
				t.Fatalf("Parse(%v) = %+v, %d, %v, want %+v, %d, %v", bad, got, gotAt, gotE, want, at, e)
			}
			if e == api.OK && !bytes.Equal(marshal(t, got), bad) {
				t.Fatalf("P3.7: Parse takes %v, Marshal gives others", bad)
			}
		}
	}
	for _, e := range []api.Errno{api.OK, api.ErrKind, api.ErrShape, api.ErrField, api.ErrOrder} {
		if told[e] < 300 {
			t.Errorf("only %d packets were to be told %v", told[e], e)
		}
	}
}

func TestP3_6AllSmallBodies(t *testing.T) {
	for _, kind := range []api.Kind{api.KReply, api.KDone, api.KData} {
		for x := range 1 << 16 {
			b := seal([]byte{83, 1, byte(kind), byte(x) % 4, byte(x>>2) % 16, byte(x>>6) % 16, byte(x>>10) % 8, byte(x>>13) % 8}[:8-x%3])
			want, at, e := docParse(b)
			got, gotAt, gotE := wire.Parse(b)
			if gotAt != at || gotE != e || e == api.OK && !alike(got, want) {
				t.Fatalf("Parse(%v) = %+v, %d, %v, want %+v, %d, %v", b, got, gotAt, gotE, want, at, e)
			}
		}
	}
}

func TestP3_7BackAndForth(t *testing.T) {
	rnd := rand.New(rand.NewSource(307))
	for _, m := range samples(rnd, 1000) {
		b := marshal(t, m)
		got, at, e := wire.Parse(b)
		if e != api.OK || at != 0 || !alike(got, m) {
			t.Fatalf("Parse of Marshal(%+v) = %+v, %d, %v", m, got, at, e)
		}
		if !bytes.Equal(marshal(t, got), b) {
			t.Fatalf("Marshal of Parse(%v) gives others", b)
		}
	}
}

func TestP3_8TurnedBits(t *testing.T) {
	rnd := rand.New(rand.NewSource(308))
	for i, m := range samples(rnd, 4) {
		b := marshal(t, m)
		if len(b) > 300 && i > 0 {
			continue // one long message says as much as many
		}
		turned := func(at, bits uint64) {
			bad := slices.Clone(b)
			for i := range uint64(32) {
				if bits>>i&1 == 1 {
					bad[(at+i)/8] ^= 1 << ((at + i) % 8)
				}
			}
			if got, _, e := wire.Parse(bad); e == api.OK || !isZero(got) {
				t.Fatalf("%v with the bits %b turned from %d on is taken", b, bits, at)
			}
		}
		all := uint64(8 * len(b))
		for at := range all {
			turned(at, 1)
		}
		for at := range all - 32 {
			room := min(32, all-32-at)
			for range 3 {
				turned(at, 1|uint64(rnd.Uint32())&(1<<room-1))
			}
			turned(at, 1<<room-1)
		}
	}
}

func TestP3_11AnyBytes(t *testing.T) {
	rnd := rand.New(rand.NewSource(311))
	for range 20000 {
		b := make([]byte, rnd.Intn(70))
		rnd.Read(b)
		if len(b) > 2 && rnd.Intn(4) > 0 {
			copy(b, []byte{83, 1, byte(rnd.Intn(14))})
			b = seal(b)
		}
		want, at, e := docParse(b)
		if got, gotAt, gotE := wire.Parse(b); gotAt != at || gotE != e || !alike(got, want) {
			t.Fatalf("Parse(%v) = %+v, %d, %v, want %+v, %d, %v", b, got, gotAt, gotE, want, at, e)
		}
	}
}
