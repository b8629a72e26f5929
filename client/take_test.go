package client_test

import (
	"strings"
	"testing"

	"shard/api"
)

// answers are all replies that may be, by the kind of the request, to the request of the number seq.
func answers(seq uint64) map[api.Kind][]api.Message {
	return map[api.Kind][]api.Message{
		api.KGet:    {gotten(seq, ""), gotten(seq, "v"), gotten(seq, strings.Repeat("l", 64)), reply(seq, api.KGet, api.StMissing)},
		api.KSet:    {reply(seq, api.KSet, api.StOK), reply(seq, api.KSet, api.StNoCredit)},
		api.KDelete: {reply(seq, api.KDelete, api.StOK), reply(seq, api.KDelete, api.StMissing)},
		api.KCas:    {reply(seq, api.KCas, api.StOK), reply(seq, api.KCas, api.StDiffers), reply(seq, api.KCas, api.StNoCredit)},
		api.KScan:   {scanned(seq, 7), scanned(seq, 9, 7, 9), scanned(seq, 8, 8)},
	}
}

func asked() []api.Request {
	return []api.Request{get(7), set(7, "v"), del(7), cas(7, "o", "n"), create(7, "n"), scan(7, 9, 3)}
}

// Of every request and every answer: it is one just if the kinds are the same, from every host, and nothing is one twice.
func TestP12_4RepliesByKind(t *testing.T) {
	for _, r := range asked() {
		for of, list := range answers(1) {
			for _, m := range list {
				for _, from := range []api.Addr{0, 1, 2} {
					c := waiting(t, 3, 2, 4, r)
					if of != r.Kind {
						isStray(t, c, from, m)
						continue
					}
					isDone(t, c, from, m)
					isStray(t, c, from, m)
					isTicks(t, c, -1, -1)
				}
			}
		}
	}
}

func TestP12_4NothingUnderWay(t *testing.T) {
	c := newClient(t, 3, 2, 4)
	for _, seq := range []uint64{0, 1, 2} {
		for _, list := range answers(seq) {
			for _, m := range list {
				isStray(t, c, 0, m)
			}
		}
		isStray(t, c, 0, redirect(seq, 0, top, 1))
	}
	isOutcome(t, c, api.Outcome{})
}

func TestP12_4OtherNumbers(t *testing.T) {
	c := waiting(t, 3, 2, 4, get(1))
	isDone(t, c, 0, gotten(1, "one"))
	isBegun(t, c, get(7), 0)
	for _, seq := range []uint64{0, 1, 3, 258, 1<<32 + 2, 1<<63 + 2, top} {
		isStray(t, c, 0, gotten(seq, "v"))
		isStray(t, c, 0, redirect(seq, 0, top, 1))
	}
	isDone(t, c, 0, gotten(2, "two"))
}

// Only the hosts that are there are heard.
func TestP12_4OtherSenders(t *testing.T) {
	for hosts := 1; hosts <= mostHosts; hosts++ {
		for from := range 256 {
			c := waiting(t, hosts, 2, 4, get(7))
			if from >= hosts {
				isStray(t, c, api.Addr(from), gotten(1, "v"))
				isStray(t, c, api.Addr(from), redirect(1, 0, 9, 0))
				isStray(t, c, api.Addr(from), redirect(1, 0, 9, api.Addr(hosts-1)))
				continue
			}
			isDone(t, c, api.Addr(from), gotten(1, "v"))
		}
	}
}

// Messages of all kinds that may be, but are not for clients; of no kind; and those that may not be.
func TestP12_4OtherMessages(t *testing.T) {
	c := waiting(t, 3, 2, 4, get(7))
	for _, m := range []api.Message{
		{Kind: api.KGet, Seq: 1, Key: 7}, {Kind: api.KSet, Seq: 1, Key: 7}, {Kind: api.KDelete, Seq: 1, Key: 7}, {Kind: api.KCas, Seq: 1, Key: 7}, {Kind: api.KScan, Seq: 1, Key: 7, Hi: 7, Limit: 1},
		{Kind: api.KShard, Seq: 1, Key: 7, Hi: 7, Host: 1}, {Kind: api.KDone, Seq: 1, Status: api.StOK}, {Kind: api.KData, Seq: 1, Payload: []byte("p")}, {Kind: api.KAck, Seq: 1}, {Kind: api.KDelegate, Key: 7, Hi: 7},
		{}, {Seq: 1},
	} {
		isStray(t, c, 0, m)
		m.Of, m.Status = api.KGet, api.StMissing
		isStray(t, c, 0, m)
	}
	for kind := range 256 {
		if k := api.Kind(kind); k != api.KReply && k != api.KRedirect {
			m := gotten(1, "v")
			m.Kind = k
			isStray(t, c, 0, m)
			m = redirect(1, 7, 7, 1)
			m.Kind = k
			isStray(t, c, 0, m)
		}
	}
	isDone(t, c, 0, gotten(1, "v"))
}

// spoilers break a rule of wire in a message that would else be taken.
var spoilers = []func(*api.Message){
	func(m *api.Message) { m.Old = []byte("o") },
	func(m *api.Message) { m.Has = true },
	func(m *api.Message) { m.Grant = 1 },
	func(m *api.Message) { m.Bounds = 1 },
	func(m *api.Message) { m.Mask = 1 },
	func(m *api.Message) { m.Limit = 1 },
	func(m *api.Message) { m.Sessions = []api.Session{{Client: 16, Seq: 1, Status: api.StOK}} },
	func(m *api.Message) { m.Payload = []byte("p") },
	func(m *api.Message) { m.Value = make([]byte, 65) },
	func(m *api.Message) { m.Pairs = append(m.Pairs, api.Pair{Key: 7, Value: make([]byte, 65)}) },
	func(m *api.Message) { m.Status += 20 },
}

func TestP12_4MessagesThatMayNotBe(t *testing.T) {
	for _, r := range asked() {
		c := waiting(t, 3, 2, 4, r)
		for _, spoiler := range spoilers {
			for _, m := range append(answers(1)[r.Kind], redirect(1, 0, 9, 1)) {
				spoiler(&m)
				isStray(t, c, 0, m)
			}
		}
		for status := range 256 {
			m := reply(1, r.Kind, api.Status(status))
			m.Hi = 300 // outside a scan's range, and no other reply's
			isStray(t, c, 0, m)
		}
	}
	c := waiting(t, 3, 2, 4, get(7))
	isStray(t, c, 0, reply(1, api.KGet, api.StDiffers))
	isStray(t, c, 0, reply(1, api.KGet, 0))
	isStray(t, c, 0, redirect(1, 9, 7, 1))
	isStray(t, c, 0, redirect(1, 7, 6, 1))
	m := reply(1, api.KGet, api.StMissing)
	m.Value = []byte("v")
	isStray(t, c, 0, m)
	c = waiting(t, 3, 2, 4, set(7, "v"))
	isStray(t, c, 0, reply(1, api.KSet, api.StMissing))
	isStray(t, c, 0, reply(1, api.KSet, api.StDiffers))
}

// A scan's answer must keep within what was asked for.
func TestP12_4ScansAtTheEdges(t *testing.T) {
	for _, x := range []struct {
		m    api.Message
		fine bool
	}{
		{scanned(1, 9), false},
		{scanned(1, 10), true},
		{scanned(1, 20), true},
		{scanned(1, 21), false},
		{scanned(1, 0), false},
		{scanned(1, top), false},
		{scanned(1, 20, 9), false},
		{scanned(1, 20, 0, 15), false},
		{scanned(1, 20, 9, 10), false},
		{scanned(1, 20, 10), true},
		{scanned(1, 20, 20), true},
		{scanned(1, 20, 10, 20), true},
		{scanned(1, 20, 10, 11, 12), false},
		{scanned(1, 12, 10, 12), true},
		{scanned(1, 12, 10, 13), false},
		{scanned(1, 20, 12, 11), false},
		{scanned(1, 20, 11, 11), false},
	} {
		c := waiting(t, 2, 2, 9, scan(10, 20, 2))
		if x.fine {
			isDone(t, c, 1, x.m)
		} else {
			isStray(t, c, 1, x.m)
		}
	}
	c := waiting(t, 2, 2, 9, scan(0, top, 16))
	all := scanned(1, top, 0, 1, 2, 3, 4, 5, 6, 7, 8, 9, 10, 11, 12, 13, 14, top)
	more := all
	more.Pairs = append(more.Pairs[:15:15], api.Pair{Key: top - 1}, api.Pair{Key: top})
	isStray(t, c, 0, more)
	isDone(t, c, 0, all)
	c = waiting(t, 2, 2, 9, scan(top, top, 1))
	isStray(t, c, 0, scanned(1, top-1))
	isStray(t, c, 0, scanned(1, top, top-1))
	isDone(t, c, 0, scanned(1, top, top))
}

// For each limit: as many pairs are an answer, one more is not.
func TestP12_4ScansByLimit(t *testing.T) {
	var keys []uint64
	for limit := 1; limit <= 16; limit++ {
		keys = append(keys, uint64(limit))
		c := waiting(t, 2, 2, 9, scan(0, 99, uint8(limit)))
		isStray(t, c, 0, scanned(1, 99, append(keys, 50)...))
		isDone(t, c, 0, scanned(1, 99, keys...))
	}
}

func TestP12_5RepliesOfEarlierHosts(t *testing.T) {
	c := waiting(t, 4, 1, 9, set(7, "a"))
	isTicks(t, c, 0, 1)
	isFollowed(t, c, 1, redirect(1, 5, 9, 3))
	want := api.Outcome{Phase: api.PhDone, Seq: 1, Status: api.StOK, Host: 0, Sent: 4, Hops: 1}
	isDone(t, c, 0, reply(1, api.KSet, api.StOK))
	isOutcome(t, c, want)
	isStray(t, c, 3, reply(1, api.KSet, api.StNoCredit))
	isOutcome(t, c, want)
	isHints(t, c, api.Segment{Lo: 0, Hi: 4, Host: 0}, api.Segment{Lo: 5, Hi: 9, Host: 3}, api.Segment{Lo: 10, Hi: top, Host: 0})
	isBegun(t, c, get(7), 3)
}

// An answer's fields are gone with the next request.
func TestP12_8AnswersAreForgotten(t *testing.T) {
	c := waiting(t, 2, 1, 1, get(7))
	isDone(t, c, 1, gotten(1, "value"))
	isBegun(t, c, scan(7, 9, 3), 0)
	isDone(t, c, 1, scanned(2, 9, 7, 9))
	isBegun(t, c, del(7), 0)
	isErr(t, c.GiveUp(), api.OK)
	isOutcome(t, c, api.Outcome{Phase: api.PhUnknown, Seq: 3, Host: 0, Sent: 1})
	isBegun(t, c, scan(7, 9, 3), 0)
	isDone(t, c, 1, scanned(4, 9, 8))
	isBegun(t, c, get(7), 0)
	isDone(t, c, 1, reply(5, api.KGet, api.StMissing))
	isOutcome(t, c, api.Outcome{Phase: api.PhDone, Seq: 5, Status: api.StMissing, Host: 1, Sent: 1})
}
