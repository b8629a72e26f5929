package xonce_test

import (
	"testing"

	"shard/api"
	"shard/xonce"
)

// sentFour makes an end of host 0 among 3 that has sent a to d to host 1, with queue 4 and window 2.
func sentFour(t *testing.T) *xonce.End {
	t.Helper()
	return loadEnd(t, 0, 3, 4, 2, api.EndState{Peers: []api.PeerState{{}, {Sent: 4, Queue: [][]byte{{'a'}, {'b'}, {'c'}, {'d'}}}, {}}})
}

// The document's second and third examples.
func TestP8_4AckExamples(t *testing.T) {
	e := sentFour(t)
	isTick(t, e, out(1, data(1, "a")), out(1, data(2, "b")))
	isTake(t, e, 1, ack(0, 1), true, nil)
	isTick(t, e, out(1, data(1, "a")))
	isTake(t, e, 1, ack(2, 0), true, nil, out(1, data(3, "c")), out(1, data(4, "d")))
	isTake(t, e, 1, ack(0, 1), false, nil)
	isTake(t, e, 1, ack(0, 0), false, nil)
	isTakeRefused(t, e, 1, ack(5, 0), api.ErrXonceAck)
	isTakeRefused(t, e, 1, ack(2, 2), api.ErrXonceAck)
	isTake(t, e, 1, ack(2, 1), true, nil)
	isState(t, e, api.PeerState{}, api.PeerState{Sent: 4, Acked: 2, Queue: [][]byte{{'c'}, {'d'}}, Mask: 1}, api.PeerState{})
}

// An old Ack changes nothing, but one that speaks of what was never sent is refused, old or not.
func TestP8_4OldAcks(t *testing.T) {
	e := sentFour(t)
	isTake(t, e, 1, ack(3, 0), true, nil, out(1, data(4, "d")))
	for _, m := range []api.Message{ack(0, 0), ack(0, 7), ack(1, 3), ack(2, 1), ack(2, 0)} {
		isTake(t, e, 1, m, false, nil)
	}
	for _, m := range []api.Message{ack(0, 8), ack(1, 4), ack(2, 2), ack(3, 1), ack(4, 1), ack(0, 1<<63), ack(0, top)} {
		isTakeRefused(t, e, 1, m, api.ErrXonceAck)
	}
	isState(t, e, api.PeerState{}, api.PeerState{Sent: 4, Acked: 3, Queue: [][]byte{{'d'}}}, api.PeerState{})
}

// Masks of one Seq are gathered; a higher Seq brings its own mask alone.
func TestP8_4MasksAreGathered(t *testing.T) {
	e := loadPair(t, 6, 6, api.PeerState{Sent: 6, Queue: [][]byte{{1}, {2}, {3}, {4}, {5}, {6}}})
	isTake(t, e, 1, ack(0, 1), true, nil)
	isTake(t, e, 1, ack(0, 4), true, nil)
	isTake(t, e, 1, ack(0, 0), false, nil)
	isTake(t, e, 1, ack(0, 5), false, nil)
	isTake(t, e, 1, ack(0, 21), true, nil)
	isTick(t, e, out(1, data(1, "\x01")), out(1, data(3, "\x03")), out(1, data(5, "\x05")))
	isTake(t, e, 1, ack(2, 2), true, nil)
	isTick(t, e, out(1, data(3, "\x03")), out(1, data(4, "\x04")), out(1, data(6, "\x06")))
	isState(t, e, api.PeerState{}, api.PeerState{Sent: 6, Acked: 2, Queue: [][]byte{{3}, {4}, {5}, {6}}, Mask: 2})
}

// What comes into the window is sent, also if the same Ack, or one before, names it.
func TestP8_4MailsOfWhatMaskNames(t *testing.T) {
	e := sentFour(t)
	isTake(t, e, 1, ack(0, 4), true, nil)
	isTake(t, e, 1, ack(1, 1), true, nil, out(1, data(3, "c")))
	isTick(t, e, out(1, data(2, "b")))
	isTake(t, e, 1, ack(2, 1), true, nil, out(1, data(4, "d")))
	isTick(t, e, out(1, data(3, "c")))
}

// For every window and every fill of a queue, every Seq and every mask of its numbers, with some masks before: each Ack against the document's.
func TestP8_4AllAcks(t *testing.T) {
	for _, acked := range []uint64{0, top - 4} {
		for fill := range 5 {
			for window := 1; window <= 4; window++ {
				p := api.PeerState{Acked: acked, Sent: acked + uint64(fill)}
				for i := range fill {
					p.Queue = append(p.Queue, []byte{byte('a' + i)})
				}
				for _, mask := range []uint64{0, 1, 6} {
					if _, fine := names(acked, mask, p.Sent); !fine {
						continue
					}
					p.Mask = mask
					holdAcks(t, window, p)
				}
			}
		}
	}
}

func holdAcks(t *testing.T, window int, p api.PeerState) {
	t.Helper()
	seqs := []uint64{0, 1, p.Acked - 2, p.Acked - 1, p.Sent + 1, p.Sent + 2, top, 1 << 63}
	for n := range 4 {
		seqs = append(seqs, p.Acked+uint64(n))
	}
	masks := []uint64{1 << 32, 1 << 62, 1 << 63, top}
	for mask := range uint64(17) {
		masks = append(masks, mask)
	}
	for _, seq := range seqs {
		for _, mask := range masks {
			holdTake(t, 4, window, p, ack(seq, mask))
		}
	}
}

// A full queue of the greatest length, at the greatest window and at the least.
func TestP8_4AcksOfALongQueue(t *testing.T) {
	var queue [][]byte
	for i := range mostQueue {
		queue = append(queue, []byte{byte(i)})
	}
	for window := 1; window <= mostQueue; window++ {
		p := api.PeerState{Sent: 1<<40 + 16, Acked: 1 << 40, Queue: queue}
		for gone := range uint64(19) {
			for i := range 20 {
				holdTake(t, mostQueue, window, p, ack(1<<40+gone, 1<<i))
				holdTake(t, mostQueue, window, p, ack(1<<40+gone, 1<<i-1))
			}
		}
	}
}

// Nothing wraps round at the greatest number.
func TestP8_4AcksOfTheLastNumbers(t *testing.T) {
	e := loadPair(t, 4, 4, api.PeerState{Sent: top, Acked: top - 3, Queue: [][]byte{{1}, {2}, {3}}})
	for i := 2; i < 64; i++ { // bit 2 stands for a number above all numbers
		isTakeRefused(t, e, 1, ack(top-3, 1<<i), api.ErrXonceAck)
		isTakeRefused(t, e, 1, ack(top, 1<<i), api.ErrXonceAck)
	}
	isTakeRefused(t, e, 1, ack(top, 1), api.ErrXonceAck)
	isTakeRefused(t, e, 1, ack(top-1, 1), api.ErrXonceAck)
	isTake(t, e, 1, ack(0, 1<<63), false, nil)
	isTake(t, e, 1, ack(top-65, 1<<63), false, nil)
	isTakeRefused(t, e, 1, ack(top-64, 1<<63), api.ErrXonceAck)
	isTake(t, e, 1, ack(top-3, 2), true, nil)
	isTick(t, e, out(1, data(top-2, "\x01")), out(1, data(top-1, "\x02")))
	isTake(t, e, 1, ack(top-2, 1), true, nil)
	isTick(t, e, out(1, data(top-1, "\x02")))
	isTake(t, e, 1, ack(top, 0), true, nil)
	isTake(t, e, 1, ack(top, 0), false, nil)
	isCalm(t, e, true)
}

// Nothing was ever sent: the Ack of nothing is fine, and changes nothing.
func TestP8_4AckOfNothing(t *testing.T) {
	e := newEnd(t, 0, 2, 4, 2)
	isTake(t, e, 1, ack(0, 0), false, nil)
	isTakeRefused(t, e, 1, ack(1, 0), api.ErrXonceAck)
	isTakeRefused(t, e, 1, ack(0, 1), api.ErrXonceAck)
	isSend(t, e, 1, "a", out(1, data(1, "a")))
	isTakeRefused(t, e, 1, ack(0, 1), api.ErrXonceAck)
	isTake(t, e, 1, ack(1, 0), true, nil)
	isTake(t, e, 1, ack(1, 0), false, nil)
}
