package frag

import (
	"bytes"

	"shard/api"
)

// slot is an unfinished packet: Total and Count are the lengths of its lists.
type slot struct {
	packet []byte
	has    []bool // by Index: this part of the packet has come
	got    int
	age    int
}

// put lays a fragment's part into the packet, if it goes with what is there.
func (s *slot) put(f api.Frag) api.Errno {
	if f.Total != len(s.packet) || f.Count != len(s.has) {
		return api.ErrClash
	}
	start, end := ends(f)
	kept := s.packet[start:end]
	if !s.has[f.Index] {
		copy(kept, f.Part)
		s.has[f.Index] = true
		s.got++
		return api.OK
	}
	if !bytes.Equal(kept, f.Part) {
		return api.ErrClash
	}
	return api.OK
}

func (s *slot) whole() bool { return s.got == len(s.has) }

// out gives the packet in memory of its own.
func (s *slot) out() []byte {
	packet := make([]byte, len(s.packet))
	copy(packet, s.packet)
	return packet
}
