package core

import (
	"shard/api"
	"shard/codec"
)

// The bytes that a state begins with.
const (
	mark    = 0xC0
	version = 0x01
)

// Save gives a state's bytes.
func Save(s api.HostState) ([]byte, api.Errno) {
	if !isWellFormed(s) {
		return nil, api.ErrState
	}
	// No well-formed state comes near this limit, so the writer never refuses.
	w, _ := codec.NewWriter(api.MaxCodec)
	w.U8(mark)
	w.U8(version)
	w.U8(uint8(s.Self))
	putTable(w, s.Table)
	putPairs(w, s.Pairs)
	putSessions(w, s.Sessions)
	w.Varint(uint64(s.Free))
	w.Varint(uint64(s.Spare))
	putEnd(w, s.End)
	body, _ := w.Out()
	w.U32(codec.Crc(body))
	return w.Out()
}

func putTable(w *codec.Writer, segs []api.Segment) {
	w.Varint(uint64(len(segs)))
	for _, g := range segs {
		w.U64(g.Hi)
		w.U8(uint8(g.Host))
	}
}

func putPairs(w *codec.Writer, pairs []api.Pair) {
	w.Varint(uint64(len(pairs)))
	for _, p := range pairs {
		w.U64(p.Key)
		w.Block(p.Value)
	}
}

func putSessions(w *codec.Writer, sessions []api.Session) {
	w.Varint(uint64(len(sessions)))
	for _, s := range sessions {
		w.U8(uint8(s.Client))
		w.U64(s.Seq)
		w.U8(uint8(s.Status))
	}
}

func putEnd(w *codec.Writer, s api.EndState) {
	w.U8(uint8(len(s.Peers)))
	for _, p := range s.Peers {
		w.U64(p.Sent)
		w.U64(p.Acked)
		w.U64(p.Mask)
		w.U64(p.Delivered)
		w.Varint(uint64(len(p.Queue)))
		for _, payload := range p.Queue {
			w.Block(payload)
		}
		w.Varint(uint64(len(p.Early)))
		for _, f := range p.Early {
			w.U64(f.Seq)
			w.Block(f.Payload)
		}
	}
}

// Read gives the state of bytes.
func Read(b []byte) (api.HostState, api.Errno) {
	r, _ := codec.NewReader(b)
	if r.U8() != mark || r.U8() != version {
		return api.HostState{}, api.ErrState
	}
	s := api.HostState{Self: api.Addr(r.U8())}
	s.Table = takeTable(r)
	s.Pairs = takeList(r, api.MaxShelf, takePair)
	s.Sessions = takeList(r, api.MaxClients, takeSession)
	s.Free = takeNumber(r, mostCredits)
	s.Spare = takeNumber(r, mostCredits)
	s.End = takeEnd(r)
	sum := r.U32()
	if r.Done() != api.OK || sum != codec.Crc(b[:len(b)-4]) || !isWellFormed(s) {
		return api.HostState{}, api.ErrState
	}
	return s, api.OK
}

// takeNumber takes a varint that is no more than it may be.
func takeNumber(r *codec.Reader, most int) int {
	n := r.Varint()
	if n > uint64(most) {
		r.Fail(api.ErrState)
		return 0
	}
	return int(n)
}

// takeList takes a number, and so many items.
func takeList[T any](r *codec.Reader, most int, take func(*codec.Reader) T) []T {
	var list []T
	for range takeNumber(r, most) {
		item := take(r)
		if r.Err() != api.OK {
			return nil
		}
		list = append(list, item)
	}
	return list
}

// takeTable takes segments; each begins behind the one ahead of it, the first one at 0.
func takeTable(r *codec.Reader) []api.Segment {
	segs := takeList(r, api.MaxSegments, takeSegment)
	for i := 1; i < len(segs); i++ {
		segs[i].Lo = segs[i-1].Hi + 1
	}
	return segs
}

func takeSegment(r *codec.Reader) api.Segment {
	return api.Segment{Hi: r.U64(), Host: api.Addr(r.U8())}
}

func takePair(r *codec.Reader) api.Pair {
	return api.Pair{Key: r.U64(), Value: r.Block(api.MaxValue)}
}

func takeSession(r *codec.Reader) api.Session {
	return api.Session{Client: api.Addr(r.U8()), Seq: r.U64(), Status: api.Status(r.U8())}
}

func takeEnd(r *codec.Reader) api.EndState {
	var s api.EndState
	for range r.U8() {
		s.Peers = append(s.Peers, takePeer(r))
	}
	return s
}

func takePeer(r *codec.Reader) api.PeerState {
	return api.PeerState{
		Sent:      r.U64(),
		Acked:     r.U64(),
		Mask:      r.U64(),
		Delivered: r.U64(),
		Queue:     takeList(r, api.MaxQueue, takePayload),
		Early:     takeList(r, api.MaxQueue, takeFrame),
	}
}

func takePayload(r *codec.Reader) []byte { return r.Block(api.MaxPayload) }

func takeFrame(r *codec.Reader) api.Frame {
	return api.Frame{Seq: r.U64(), Payload: r.Block(api.MaxPayload)}
}
