package xonce

import (
	"bytes"
	"math"
	"math/bits"
	"slices"

	"shard/api"
)

// outgoing is the half of a peer that goes there: what was sent and what of it is not yet acknowledged.
type outgoing struct {
	sent  uint64
	acked uint64
	queue [][]byte // the payloads with the numbers acked + 1 to sent
	mask  uint64   // bit i: the number acked + 2 + i has come early
}

func (o *outgoing) full(queue int) bool { return len(o.queue) >= queue }

func (o *outgoing) spent() bool { return o.sent == math.MaxUint64 }

func (o *outgoing) waits() bool { return len(o.queue) > 0 }

// room tells how many payloads more may come in, with so many as the queue may hold.
func (o *outgoing) room(queue int) int {
	// A queue is short: held against what it has room for, the numbers that are left fit an int.
	return int(min(uint64(queue-len(o.queue)), math.MaxUint64-o.sent))
}

// open tells how many payloads stand within the first window.
func (o *outgoing) open(window int) int { return min(window, len(o.queue)) }

// push takes a payload in; its Data, if it may be on the way at once.
func (o *outgoing) push(to api.Addr, payload []byte, window int) []api.Out {
	before := o.open(window)
	o.sent++
	o.queue = append(o.queue, bytes.Clone(payload))
	return o.datas(to, before, o.open(window))
}

// datas gives the Data of the payloads from one place of the queue up to another, this one not among them.
func (o *outgoing) datas(to api.Addr, first int, behind int) []api.Out {
	var out []api.Out
	for place := first; place < behind; place++ {
		out = append(out, o.data(to, place))
	}
	return out
}

func (o *outgoing) data(to api.Addr, place int) api.Out {
	seq := o.acked + 1 + uint64(place)
	return api.Out{To: to, M: api.Message{Kind: api.KData, Seq: seq, Payload: bytes.Clone(o.queue[place])}}
}

// missing gives the Data in the first window of which the peer has not told that they have come.
func (o *outgoing) missing(to api.Addr, window int) []api.Out {
	var out []api.Out
	for place := range o.open(window) {
		if !o.named(place) {
			out = append(out, o.data(to, place))
		}
	}
	return out
}

// named tells whether the mask names the payload at a place. The first one has no bit: had it come, it would not wait.
func (o *outgoing) named(place int) bool { return place > 0 && o.mask>>(place-1)&1 == 1 }

// takeAck takes an Ack: what has come goes out of the queue, and what moves into the window by that is to be sent.
func (o *outgoing) takeAck(from api.Addr, m api.Message, window int) (api.Taken, api.Errno) {
	switch {
	case !bare(m) || len(m.Payload) > 0:
		return api.Taken{}, api.ErrXonceKind
	case m.Seq > o.sent || !within(m.Mask, o.sent-m.Seq):
		return api.Taken{}, api.ErrXonceAck
	case m.Seq < o.acked:
		return api.Taken{}, api.OK
	case m.Seq == o.acked:
		old := o.mask
		o.mask |= m.Mask
		return api.Taken{Changed: o.mask != old}, api.OK
	}
	gone := int(m.Seq - o.acked)
	before := max(o.open(window)-gone, 0)
	o.queue = slices.Delete(o.queue, 0, gone)
	o.acked, o.mask = m.Seq, m.Mask
	return api.Taken{Mails: o.datas(from, before, o.open(window)), Changed: true}, api.OK
}

// within tells whether a mask names none but the first so many numbers behind the one that it hangs on.
func within(mask uint64, numbers uint64) bool {
	// Bit 0 stands for the second of them. Counted from there on, nothing can wrap round.
	return mask == 0 || uint64(bits.Len64(mask))+1 <= numbers
}

// loadOutgoing takes this half of a state, unless it may not be.
func (o *outgoing) loadOutgoing(s api.PeerState, queue int) bool {
	if s.Acked > s.Sent || len(s.Queue) > queue || uint64(len(s.Queue)) != s.Sent-s.Acked {
		return false
	}
	if !within(s.Mask, s.Sent-s.Acked) || slices.ContainsFunc(s.Queue, unfit) {
		return false
	}
	*o = outgoing{sent: s.Sent, acked: s.Acked, queue: copies(s.Queue), mask: s.Mask}
	return true
}

func (o *outgoing) tellOutgoing(s *api.PeerState) {
	s.Sent, s.Acked, s.Queue, s.Mask = o.sent, o.acked, copies(o.queue), o.mask
}

func copies(payloads [][]byte) [][]byte {
	out := make([][]byte, len(payloads))
	for i, payload := range payloads {
		out[i] = bytes.Clone(payload)
	}
	return out
}
