package xonce_test

import (
	"testing"

	"shard/api"
)

func TestP8_5TickOfManyPeers(t *testing.T) {
	e := newEnd(t, 2, 4, 4, 2)
	for _, to := range []api.Addr{3, 0, 1} {
		for _, payload := range []string{"a", "b", "c"} {
			e.Send(to, []byte(payload))
		}
	}
	isTake(t, e, 1, ack(0, 1), true, nil)
	isTake(t, e, 3, ack(1, 0), true, nil, out(3, data(3, "c")))
	for range 3 { // it may be asked as often as one likes
		isTick(t, e, out(0, data(1, "a")), out(0, data(2, "b")), out(1, data(1, "a")), out(3, data(2, "b")), out(3, data(3, "c")))
	}
	isTake(t, e, 0, ack(3, 0), true, nil)
	isTake(t, e, 1, ack(3, 0), true, nil)
	isTick(t, e, out(3, data(2, "b")), out(3, data(3, "c")))
	isTake(t, e, 3, ack(2, 0), true, nil)
	isTake(t, e, 3, ack(3, 0), true, nil)
	isTick(t, e)
}

// Every mask of a queue's numbers, at every window.
func TestP8_5TickOfAllMasks(t *testing.T) {
	queue := [][]byte{{'a'}, {'b'}, {'c'}, {'d'}, {'e'}}
	for window := 1; window <= 5; window++ {
		for mask := range uint64(16) {
			for _, acked := range []uint64{0, 9, top - 5} {
				e := loadPair(t, 5, window, api.PeerState{Sent: acked + 5, Acked: acked, Queue: queue, Mask: mask})
				var want []api.Out
				for i := range window {
					if i == 0 || mask&(1<<(i-1)) == 0 {
						want = append(want, out(1, data(acked+1+uint64(i), string(queue[i]))))
					}
				}
				isTick(t, e, want...)
			}
		}
	}
}

// A full queue of the greatest length, all but the first payload of which has come.
func TestP8_5TickAtTheLimits(t *testing.T) {
	p := api.PeerState{Sent: 16, Mask: 1<<15 - 1}
	for i := range mostQueue {
		p.Queue = append(p.Queue, []byte{byte(i)})
	}
	isTick(t, loadPair(t, 16, 16, p), out(1, data(1, "\x00")))
	p.Mask = 1<<14 - 1
	isTick(t, loadPair(t, 16, 16, p), out(1, data(1, "\x00")), out(1, data(16, "\x0f")))
	isTick(t, loadPair(t, 16, 15, p), out(1, data(1, "\x00")))
}

// As many as Room tells are taken, one behind another, and no more.
func TestP8_6RoomIsWhatSendTakes(t *testing.T) {
	for queue := 1; queue <= mostQueue; queue++ {
		for _, left := range []uint64{0, 1, 2, 15, 16, 17, 1 << 32, 1 << 63, top} {
			e := loadPair(t, queue, 1, api.PeerState{Sent: top - left, Acked: top - left})
			room := int(min(uint64(queue), left))
			for more := room; more > 0; more-- {
				isRoom(t, e, 1, more)
				if _, x := e.Send(1, []byte("x")); x != api.OK {
					t.Fatalf("queue %d, %d left: %d", queue, left, x)
				}
			}
			isRoom(t, e, 1, 0)
			if _, x := e.Send(1, []byte("x")); x == api.OK {
				t.Fatalf("queue %d, %d left: more than %d were taken", queue, left, room)
			}
		}
	}
}

func TestP8_6RoomOfNoPeer(t *testing.T) {
	for hosts := 1; hosts <= mostHosts; hosts++ {
		for self := range hosts {
			e := newEnd(t, api.Addr(self), hosts, 7, 2)
			for to := range 256 {
				want := 0
				if to < hosts && to != self {
					want = 7
				}
				isRoom(t, e, api.Addr(to), want)
			}
		}
	}
}

func TestP8_6CalmOnceAllIsAcknowledged(t *testing.T) {
	e := newEnd(t, 1, 4, 4, 1)
	isCalm(t, e, true)
	for _, to := range []api.Addr{0, 2, 3} {
		e.Send(to, []byte("x"))
		isCalm(t, e, false)
	}
	e.Send(3, []byte("y"))
	isTake(t, e, 3, ack(1, 0), true, nil, out(3, data(2, "y")))
	isTake(t, e, 0, ack(1, 0), true, nil)
	isCalm(t, e, false)
	isTake(t, e, 3, ack(2, 0), true, nil)
	isCalm(t, e, false)
	isTake(t, e, 2, ack(1, 0), true, nil)
	isCalm(t, e, true)
}

// What has come early waits here, not there: the end is calm.
func TestP8_6CalmWithEarlyFrames(t *testing.T) {
	e := newEnd(t, 0, 2, 4, 4)
	isTake(t, e, 1, data(3, "z"), true, nil, out(1, ack(0, 2)))
	isCalm(t, e, true)
	isTick(t, e)
}

func TestP8_6StateHasAnEntryForEachHost(t *testing.T) {
	for hosts := 1; hosts <= mostHosts; hosts++ {
		for self := range hosts {
			e := newEnd(t, api.Addr(self), hosts, 4, 2)
			want := make([]api.PeerState, hosts)
			for h := range hosts {
				if h == self {
					continue
				}
				e.Send(api.Addr(h), []byte{byte(h), 1})
				e.Take(api.Addr(h), data(2, string(rune('A'+h))))
				want[h] = api.PeerState{Sent: 1, Queue: [][]byte{{byte(h), 1}}, Early: []api.Frame{{Seq: 2, Payload: []byte{byte('A' + h)}}}}
			}
			isState(t, e, want...)
			isState(t, e, want...)
		}
	}
}
