package journal

import (
	"errors"

	"shard/api"
	"shard/codec"
)

// content is what was found in a slot.
type content struct {
	gen     uint64 // 0: the slot is not whole
	state   []byte
	records [][]byte
	end     int    // where the torn end begins
	sum     uint32 // of what stands ahead of it
}

// read gives what a slot holds; its error is a rotten piece.
func read(b []byte, number int) (content, error) {
	// No slot's limit is above what a Reader takes.
	from, _ := codec.NewReader(b)
	r := reading{from: from}
	var c content
	err := r.begin(&c, number)
	for err == nil {
		c.end, c.sum = r.at, r.sum
		err = r.record(&c)
	}
	if errors.Is(err, errTorn) {
		return c, nil
	}
	return content{}, err
}

// reading takes a slot's pieces from the left; whatever it answers is memory of its own.
type reading struct {
	from *codec.Reader
	at   int
	sum  uint32
}

// piece takes so many bytes and the sum behind them.
func (r *reading) piece(size int) ([]byte, error) {
	if r.from.Left() < size+sumSize {
		return nil, flaw{r.at, errTorn}
	}
	b := r.from.Raw(size)
	sum := codec.CrcMore(r.sum, b)
	if r.from.U32() != sum {
		return nil, flaw{r.at, errRotten}
	}
	r.at += size + sumSize
	r.sum = sum
	return b, nil
}

// begin takes head and state of the slot with this number.
func (r *reading) begin(c *content, number int) error {
	at := r.at
	b, err := r.piece(headSize)
	if err != nil {
		return err
	}
	head, _ := codec.NewReader(b)
	marked, gen, length := head.U32() == mark, head.U64(), head.U32()
	if !marked || gen == 0 || home(gen) != number || length > api.MaxState {
		return flaw{at, errRotten}
	}
	state, err := r.piece(int(length))
	if err != nil {
		return err
	}
	c.gen, c.state = gen, state
	return nil
}

// record takes a record, its head and its body.
func (r *reading) record(c *content) error {
	at := r.at
	b, err := r.piece(lengthSize)
	if err != nil {
		return err
	}
	head, _ := codec.NewReader(b)
	length := head.U32()
	if length == 0 || length > api.MaxRecord {
		return flaw{at, errRotten}
	}
	rec, err := r.piece(int(length))
	if err != nil {
		return err
	}
	c.records = append(c.records, rec)
	return nil
}

// survey reads both slots of a disk, or finds why it can't be opened.
func survey(d api.Disk, limit int) ([2]content, *Fault) {
	var found [2]content
	if !possible(limit) {
		return found, &Fault{neither, 0, api.ErrSlots}
	}
	for i, b := range d.Slots {
		if len(b) > limit {
			return found, &Fault{i, limit, api.ErrSlots}
		}
	}
	for i, b := range d.Slots {
		c, err := read(b, i)
		var f flaw
		if errors.Is(err, errRotten) && errors.As(err, &f) {
			return found, &Fault{i, f.at, api.ErrRot}
		}
		found[i] = c
	}
	return found, mismatch(found[0].gen, found[1].gen)
}

// mismatch tells why the generations of two slots, 0 for one that is not whole, don't make a disk.
func mismatch(a, b uint64) *Fault {
	older, newer := min(a, b), max(a, b)
	switch {
	case older > 0 && newer-older != 1:
		return &Fault{home(older), genAt, api.ErrRot}
	case newer == 0:
		return &Fault{neither, 0, api.ErrNoState}
	}
	return nil
}
