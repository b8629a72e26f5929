package linear

import (
	"bytes"

	"shard/api"
)

// cell is what a key has: a value, or none. Where it has none, its bytes are empty. Its bytes are those of whoever set them: they are never changed.
type cell struct {
	has   bool
	value []byte
}

func full(value []byte) cell { return cell{has: true, value: value} }

func (c cell) is(d cell) bool { return c.has == d.has && bytes.Equal(c.value, d.value) }

// Step tells whether a call, with the answer that it has, can take effect on a value (or none), and the value behind it.
func Step(c api.Call, has bool, value []byte) (bool, bool, []byte) {
	if !mayBe(c) || isScan(c) {
		return false, false, nil
	}
	on := cell{}
	if has {
		on = full(value)
	}
	can, behind := effect(c, on)
	return can, behind.has, bytes.Clone(behind.value)
}

// effect tells whether a call that may be, and is no Scan, can take effect on a cell, and the cell behind it.
func effect(c api.Call, on cell) (bool, cell) {
	if c.Status == api.StNoCredit {
		// Only a pair that is not there yet needs a credit, and without one it is not made.
		return !on.has, cell{}
	}
	status, behind := execute(c.Req, on)
	if !isKnown(c) || status == c.Status && tells(c, on) {
		return true, behind
	}
	return false, cell{}
}

// tells tells whether a call was told the value that a cell has, if it asked for it.
func tells(c api.Call, on cell) bool {
	return c.Req.Kind != api.KGet || bytes.Equal(c.Value, on.value)
}

// execute carries a request out on a cell, as if credits never ran out: the status that it is answered with, and the cell behind it.
func execute(r api.Request, on cell) (api.Status, cell) {
	switch {
	case r.Kind == api.KSet:
		return api.StOK, full(r.Value)
	case r.Kind == api.KCas && on.is(expected(r)):
		return api.StOK, full(r.Value)
	case r.Kind == api.KCas:
		return api.StDiffers, on
	case !on.has:
		return api.StMissing, on
	case r.Kind == api.KDelete:
		return api.StOK, cell{}
	}
	return api.StOK, on
}

// expected is the cell on which a Cas makes its change.
func expected(cas api.Request) cell {
	if cas.Has {
		return full(cas.Old)
	}
	return cell{}
}
