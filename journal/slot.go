package journal

import "shard/codec"

// A slot is a row of pieces: some bytes, and behind them the sum of all bytes so far, the sums left out.
const (
	mark        = 0x53484A31 // the letters SHJ1
	genAt       = 4          // where in a slot its generation stands
	headSize    = 16
	lengthSize  = 4
	sumSize     = 4
	slotFrame   = headSize + 2*sumSize   // what a slot has beside its state and its records
	recordFrame = lengthSize + 2*sumSize // what a record takes beside its own bytes
)

// home tells in which slot a generation stands.
func home(gen uint64) int { return int(1 - gen%2) }

// slot is where pieces are laid down.
type slot struct {
	written *codec.Writer
	sum     uint32
}

// begin lays a generation with its state into an empty slot.
func begin(gen uint64, state []byte, limit int) slot {
	s := resume(nil, 0, limit)
	s.lay(headOf(gen, len(state)))
	s.lay(state)
	return s
}

// resume goes on behind the bytes that stand in a slot, and their sum.
func resume(b []byte, sum uint32, limit int) slot {
	// No slot's limit is above a Writer's, and what does not fit is refused ahead of it: this Writer has no error, ever.
	w, _ := codec.NewWriter(limit)
	w.Raw(b)
	return slot{w, sum}
}

func (s *slot) lay(piece []byte) {
	s.sum = codec.CrcMore(s.sum, piece)
	s.written.Raw(piece)
	s.written.U32(s.sum)
}

func (s *slot) layRecord(rec []byte) {
	s.lay(lengthOf(len(rec)))
	s.lay(rec)
}

func (s *slot) size() int { return s.written.Len() }

// out gives a copy of the slot's bytes.
func (s *slot) out() []byte {
	b, _ := s.written.Out()
	return b
}

func headOf(gen uint64, length int) []byte {
	w, _ := codec.NewWriter(headSize)
	w.U32(mark)
	w.U64(gen)
	w.U32(uint32(length))
	head, _ := w.Out()
	return head
}

func lengthOf(length int) []byte {
	w, _ := codec.NewWriter(lengthSize)
	w.U32(uint32(length))
	head, _ := w.Out()
	return head
}
