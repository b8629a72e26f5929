package xonce_test

import (
	"math"
	"testing"

	"shard/api"
	"shard/xonce"
)

// Addresses and numbers around the limits and far from them.
func TestP8_1NewAtAllEdges(t *testing.T) {
	numbers := []int{math.MinInt, math.MinInt32, -257, -256, -16, -1, 0, 1, 2, 3, 15, 16, 17, 18, 255, 256, 257, 272, 1 << 32, 1<<32 + 1, math.MaxInt}
	for _, self := range []int{0, 1, 2, 14, 15, 16, 17, 32, 254, 255} {
		for _, hosts := range numbers {
			for _, queue := range numbers {
				for _, window := range numbers {
					holdNew(t, self, hosts, queue, window)
				}
			}
		}
	}
}

func holdNew(t *testing.T, self, hosts, queue, window int) {
	t.Helper()
	want, wantErr := newDocEnd(self, hosts, queue, window)
	e, x := xonce.New(api.Addr(self), hosts, queue, window)
	if x != wantErr || (e == nil) != (want == nil) {
		t.Fatalf("New(%d, %d, %d, %d): %v, %d; want %d", self, hosts, queue, window, e, x, wantErr)
	}
	if want != nil {
		isEnd(t, e, want)
		return
	}
	for _, peers := range []int{0, 3} {
		e, x := xonce.Load(api.Addr(self), hosts, queue, window, api.EndState{Peers: make([]api.PeerState, peers)})
		if e != nil || x != api.ErrArg {
			t.Fatalf("Load(%d, %d, %d, %d): %v, %d", self, hosts, queue, window, e, x)
		}
	}
}

func TestP8_1NewIsFresh(t *testing.T) {
	e := newEnd(t, 1, 3, 4, 2)
	isState(t, e, api.PeerState{}, api.PeerState{}, api.PeerState{})
	isTick(t, e)
	isCalm(t, e, true)
}

// A host that is alone has no peer, and so nothing that it could wait for.
func TestP8_1OneHostAlone(t *testing.T) {
	e := newEnd(t, 0, 1, 1, 1)
	isState(t, e, api.PeerState{})
	isCalm(t, e, true)
	isTick(t, e)
	for h := range 256 {
		isRoom(t, e, api.Addr(h), 0)
		isSendRefused(t, e, api.Addr(h), []byte("x"), api.ErrXoncePeer)
		isTakeRefused(t, e, api.Addr(h), data(1, "x"), api.ErrXoncePeer)
		isTakeRefused(t, e, api.Addr(h), ack(0, 0), api.ErrXoncePeer)
	}
}

// The document's first example.
func TestP8_2SendExamples(t *testing.T) {
	e := newEnd(t, 0, 3, 4, 2)
	isSend(t, e, 1, "a", out(1, data(1, "a")))
	isSend(t, e, 1, "b", out(1, data(2, "b")))
	isSend(t, e, 1, "c")
	isSend(t, e, 1, "d")
	isSendRefused(t, e, 1, []byte("e"), api.ErrXonceFull)
	isRoom(t, e, 1, 0)
	isRoom(t, e, 2, 4)
	isRoom(t, e, 0, 0)
	isState(t, e, api.PeerState{}, api.PeerState{Sent: 4, Queue: [][]byte{{'a'}, {'b'}, {'c'}, {'d'}}}, api.PeerState{})
}

// The document's fifth example.
func TestP8_2SendOfTheLastNumber(t *testing.T) {
	e := loadPair(t, 4, 2, api.PeerState{Sent: top - 1, Acked: top - 1})
	isRoom(t, e, 1, 1)
	isSend(t, e, 1, "a", out(1, data(top, "a")))
	isRoom(t, e, 1, 0)
	isSendRefused(t, e, 1, []byte("b"), api.ErrXonceSpent)
	isTake(t, e, 1, ack(top, 0), true, nil)
	isSendRefused(t, e, 1, []byte("b"), api.ErrXonceSpent)
	isRoom(t, e, 1, 0)
	isState(t, e, api.PeerState{}, api.PeerState{Sent: top, Acked: top})
}

func TestP8_2SendLengths(t *testing.T) {
	e := newEnd(t, 0, 2, 16, 16)
	isSendRefused(t, e, 1, nil, api.ErrXonceLong)
	isSendRefused(t, e, 1, []byte{}, api.ErrXonceLong)
	isSendRefused(t, e, 1, long(longest+1), api.ErrXonceLong)
	isSendRefused(t, e, 1, long(1<<20), api.ErrXonceLong)
	for i, n := range []int{1, 2, longest - 1, longest} {
		isSend(t, e, 1, string(long(n)), out(1, data(uint64(i+1), string(long(n)))))
	}
	isSend(t, e, 1, "\x00", out(1, data(5, "\x00")))
}

func TestP8_2SendToNoPeer(t *testing.T) {
	for _, hosts := range []int{1, 2, 3, mostHosts} {
		for self := range hosts {
			e := newEnd(t, api.Addr(self), hosts, 4, 2)
			for to := range 256 {
				if to != self && to < hosts {
					isSend(t, e, api.Addr(to), "x", out(api.Addr(to), data(1, "x")))
				} else {
					isSendRefused(t, e, api.Addr(to), []byte("x"), api.ErrXoncePeer)
				}
			}
		}
	}
}

// Where several errors apply, the first one of the chapter's list is told.
func TestP8_2SendTellsTheFirstError(t *testing.T) {
	e := loadPair(t, 1, 1, api.PeerState{Sent: top, Acked: top - 1, Queue: [][]byte{{1}}})
	isSendRefused(t, e, 0, nil, api.ErrXoncePeer)
	isSendRefused(t, e, 2, long(longest+1), api.ErrXoncePeer)
	isSendRefused(t, e, 1, nil, api.ErrXonceLong)
	isSendRefused(t, e, 1, long(longest+1), api.ErrXonceLong)
	isSendRefused(t, e, 1, []byte("x"), api.ErrXonceFull)
	isTake(t, e, 1, ack(top, 0), true, nil)
	isSendRefused(t, e, 1, nil, api.ErrXonceLong)
	isSendRefused(t, e, 1, []byte("x"), api.ErrXonceSpent)
}

// For every queue and window: a payload is on the way at once just within the first window.
func TestP8_2SendWindows(t *testing.T) {
	for queue := 1; queue <= mostQueue; queue++ {
		for window := 1; window <= queue; window++ {
			e := newEnd(t, 1, 2, queue, window)
			for n := 1; n <= queue; n++ {
				isRoom(t, e, 0, queue-n+1)
				payload := string(rune('a' + n))
				if n <= window {
					isSend(t, e, 0, payload, out(0, data(uint64(n), payload)))
				} else {
					isSend(t, e, 0, payload)
				}
			}
			isSendRefused(t, e, 0, []byte("x"), api.ErrXonceFull)
			isRoom(t, e, 0, 0)
		}
	}
}

// What the mask names still counts as waiting, and so does what it leaves open.
func TestP8_2SendCountsWhatCameEarly(t *testing.T) {
	e := loadPair(t, 3, 2, api.PeerState{Sent: 2, Queue: [][]byte{{1}, {2}}, Mask: 1})
	isRoom(t, e, 1, 1)
	isSend(t, e, 1, "c")
	isSendRefused(t, e, 1, []byte("d"), api.ErrXonceFull)
	isState(t, e, api.PeerState{}, api.PeerState{Sent: 3, Queue: [][]byte{{1}, {2}, {'c'}}, Mask: 1})
}
