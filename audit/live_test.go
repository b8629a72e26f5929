package audit_test

import (
	"fmt"
	"testing"

	"shard/api"
	"shard/audit"
)

func isLive(t *testing.T, p api.Picture, want ...api.Flight) {
	t.Helper()
	got, e := audit.Live(p)
	isShown(t, "Live", got, e, want, api.OK)
	isShown(t, "the chapter's", docLive(p), api.OK, want, api.OK)
}

func areCredits(t *testing.T, p api.Picture, pairs, bounds int) {
	t.Helper()
	a, b, e := audit.Credits(p)
	isSame(t, "Credits", []any{a, b, e}, []any{pairs, bounds, api.OK})
}

func TestP16_2Examples(t *testing.T) {
	isLive(t, started(2))
	isLive(t, handed(t), api.Flight{From: 0, To: 1, Seq: 1, M: delegate(0, 7, pair(7, "x"))})
	isLive(t, installed(t))
}

// Of each two hosts, a queue is told from the first number that has not come.
func TestP16_2Delivered(t *testing.T) {
	d := []api.Message{delegate(1, 1), delegate(2, 2), delegate(3, 3), delegate(4, 4)}
	var payloads [][]byte
	for _, m := range d {
		payloads = append(payloads, packet(t, m))
	}
	for _, acked := range []uint64{0, 1, 9, top / 2, top - 5, top - 4} {
		for below := -2; below <= 8; below++ {
			p := started(2)
			p.Config.Queue = 4
			queued(&p, 1, 0, acked, payloads...)
			delivered := acked + uint64(below)
			if below < 0 && acked < 2 || below > 4 && acked == top-4 || below > 5 && acked == top-5 {
				continue
			}
			p.Hosts[0].End.Peers[1].Delivered = delivered
			var want []api.Flight
			for i, m := range d {
				if i >= below {
					want = append(want, api.Flight{From: 1, To: 0, Seq: acked + uint64(i) + 1, M: m})
				}
			}
			isLive(t, p, want...)
		}
	}
}

// What the receiver has early, and what the sender's mask names, is live still; what the receiver has for its part does not count.
func TestP16_2Early(t *testing.T) {
	one, two := delegate(1, 1), delegate(2, 2)
	p := started(2)
	queued(&p, 0, 1, 0, packet(t, one), packet(t, two))
	p.Hosts[0].End.Peers[1].Mask = 1
	p.Hosts[0].End.Peers[1].Delivered = 9
	p.Hosts[1].End.Peers[0].Early = []api.Frame{{Seq: 2, Payload: packet(t, two)}}
	want := []api.Flight{{From: 0, To: 1, Seq: 1, M: one}, {From: 0, To: 1, Seq: 2, M: two}}
	isLive(t, p, want...)
	p.Hosts[1].End.Peers[0].Acked, p.Hosts[1].End.Peers[0].Sent = 5, 5
	isLive(t, p, want...)
}

// By rising From, then To, then Seq.
func TestP16_2Order(t *testing.T) {
	p := started(16)
	var want []api.Flight
	for a := range 16 {
		for b := range 16 {
			if a == b {
				continue
			}
			one, two := delegate(uint64(a), 99), delegate(uint64(b), 99)
			acked := uint64(100 - 3*a + b)
			queued(&p, a, b, acked, packet(t, one), packet(t, two))
			p.Hosts[b].End.Peers[a].Delivered = acked + uint64((a+b)%3)
			want = append(want, []api.Flight{
				{From: api.Addr(a), To: api.Addr(b), Seq: acked + 1, M: one},
				{From: api.Addr(a), To: api.Addr(b), Seq: acked + 2, M: two},
			}[(a+b)%3:]...)
		}
	}
	isLive(t, p, want...)
}

// A payload that is no delegation is a flight with the zero message.
func TestP16_2NoDelegation(t *testing.T) {
	whole := delegate(3, 9, pair(5, "v"))
	whole.Grant, whole.Bounds = 65535, 65535
	whole.Sessions = []api.Session{{Client: 16, Seq: 4, Status: api.StMissing}, {Client: 31, Seq: top, Status: api.StNoCredit}}
	good := packet(t, whole)
	for i, payload := range [][]byte{
		{0}, []byte("x"), good[:len(good)-1], append(good[:len(good):len(good)], 0), make([]byte, 3072),
		packet(t, api.Message{Kind: api.KSet, Seq: 1, Key: 5, Value: []byte("v")}),
		packet(t, api.Message{Kind: api.KData, Seq: 1, Payload: good}),
		packet(t, api.Message{Kind: api.KAck, Seq: 1}),
		packet(t, api.Message{Kind: api.KShard, Seq: 1, Key: 3, Hi: 9, Grant: 4}),
	} {
		p := started(2)
		queued(&p, 0, 1, 0, payload, good)
		isLive(t, p, api.Flight{From: 0, To: 1, Seq: 1}, api.Flight{From: 0, To: 1, Seq: 2, M: whole})
		live, _ := audit.Live(p)
		isSame(t, fmt.Sprint("the message of payload ", i), live[0].M, api.Message{})
	}
}

func TestP16_4Examples(t *testing.T) {
	areCredits(t, started(2), 4, 6)
	areCredits(t, handed(t), 4, 6)
	areCredits(t, installed(t), 4, 6)
}

func TestP16_4Parts(t *testing.T) {
	p := started(3)
	areCredits(t, p, 6, 9)
	p.Hosts[1].Free, p.Hosts[2].Spare = -5, 20
	areCredits(t, p, -1, 26)
	p.Hosts[2].Pairs = []api.Pair{pair(1, ""), pair(2, "")} // strays count too
	areCredits(t, p, 1, 26)
	p.Hosts[0].Table = []api.Segment{seg(0, 4, 2), seg(5, 9, 1), seg(10, top, 2)}
	areCredits(t, p, 1, 28)
	m := delegate(0, 9, pair(1, ""), pair(4, ""), pair(9, ""))
	m.Grant, m.Bounds = 100, 1000
	queued(&p, 1, 0, 7, packet(t, delegate(4, 4)), packet(t, m))
	areCredits(t, p, 104, 1032)
	queued(&p, 1, 0, 7, []byte("no delegation"), packet(t, m))
	areCredits(t, p, 104, 1030)
	p.Hosts[0].End.Peers[1].Delivered = 9 // both have come
	areCredits(t, p, 1, 28)
}

func TestP16_4Edges(t *testing.T) {
	p := started(16)
	for h := range p.Hosts {
		p.Hosts[h].Free, p.Hosts[h].Spare = 1<<31, -1<<31
	}
	areCredits(t, p, 1<<35, -1<<35)
	p.Config.Queue, p.Config.Window = 16, 16
	m := delegate(0, top)
	m.Grant, m.Bounds = api.MaxGrant, api.MaxGrant
	full := make([][]byte, 16)
	for i := range full {
		full[i] = packet(t, m)
	}
	for a := range 16 {
		for b := range 16 {
			if a != b {
				queued(&p, a, b, 0, full...)
			}
		}
	}
	areCredits(t, p, 1<<35+3840*65535, -1<<35+3840*65537)
}
