package xonce

import (
	"bytes"
	"slices"

	"shard/api"
)

// incoming is the half of a peer that comes from there: what was handed up and what waits for its turn.
type incoming struct {
	delivered uint64
	early     []api.Frame // rising; all above delivered + 1
}

// takeData takes a Data: it is kept, if it is new, and what has its turn now is handed up. The answer is always an Ack, since an earlier one may be lost.
func (in *incoming) takeData(from api.Addr, m api.Message, window int) (api.Taken, api.Errno) {
	switch {
	case !bare(m) || m.Mask != 0:
		return api.Taken{}, api.ErrXonceKind
	case unfit(m.Payload):
		return api.Taken{}, api.ErrXonceLong
	case in.far(m.Seq, window):
		return api.Taken{}, api.ErrXonceFar
	}
	changed := in.keep(m.Seq, m.Payload)
	ups := in.handUp(from)
	return api.Taken{Ups: ups, Mails: []api.Out{{To: from, M: in.ack()}}, Changed: changed}, api.OK
}

// far tells whether a number is beyond the window. It asks for the distance, since the window's last number may be above all numbers.
func (in *incoming) far(seq uint64, window int) bool {
	return seq > in.delivered && seq-in.delivered > uint64(window)
}

// keep lays a payload in at its place, unless it has come before; whether it is new.
func (in *incoming) keep(seq uint64, payload []byte) bool {
	if seq <= in.delivered {
		return false
	}
	place := 0
	for place < len(in.early) && in.early[place].Seq < seq {
		place++
	}
	if place < len(in.early) && in.early[place].Seq == seq {
		return false
	}
	in.early = slices.Insert(in.early, place, api.Frame{Seq: seq, Payload: bytes.Clone(payload)})
	return true
}

// handUp gives up what has its turn. The bytes are given away with it: they are kept here no longer.
func (in *incoming) handUp(from api.Addr) []api.Up {
	var ups []api.Up
	for _, f := range in.early {
		if f.Seq-in.delivered != 1 {
			break
		}
		in.delivered = f.Seq
		ups = append(ups, api.Up{From: from, Seq: f.Seq, Body: f.Payload})
	}
	in.early = slices.Delete(in.early, 0, len(ups))
	return ups
}

func (in *incoming) ack() api.Message {
	m := api.Message{Kind: api.KAck, Seq: in.delivered}
	for _, f := range in.early {
		m.Mask |= 1 << (f.Seq - in.delivered - 2)
	}
	return m
}

// loadIncoming takes this half of a state, unless it may not be.
func (in *incoming) loadIncoming(s api.PeerState, window int) bool {
	in.delivered = s.Delivered
	last := uint64(1) // how far above Delivered the last number was: Delivered + 1 would have had its turn
	for _, f := range s.Early {
		if f.Seq <= s.Delivered || f.Seq-s.Delivered <= last || in.far(f.Seq, window) || unfit(f.Payload) {
			return false
		}
		last = f.Seq - s.Delivered
	}
	in.early = copiedFrames(s.Early)
	return true
}

func (in *incoming) tellIncoming(s *api.PeerState) {
	s.Delivered, s.Early = in.delivered, copiedFrames(in.early)
}

func copiedFrames(frames []api.Frame) []api.Frame {
	out := make([]api.Frame, len(frames))
	for i, f := range frames {
		out[i] = api.Frame{Seq: f.Seq, Payload: bytes.Clone(f.Payload)}
	}
	return out
}
