package journal

import (
	"errors"
	"strconv"

	"shard/api"
)

// neither is the slot of a fault that lies in no slot alone.
const neither = -1

// What ends the reading of a slot: a piece that a crash has cut short, or one that no crash can leave.
var (
	errTorn   = errors.New("torn")
	errRotten = errors.New("rotten")
)

// flaw is a torn or rotten piece: where in its slot it begins.
type flaw struct {
	at  int
	why error
}

func (f flaw) Error() string { return f.why.Error() }

func (f flaw) Unwrap() error { return f.why }

// Fault is why a disk cannot be opened: in which slot, at which byte.
type Fault struct {
	Slot int
	At   int
	Why  api.Errno
}

// Error makes it a value of error.
func (f *Fault) Error() string {
	if f == nil {
		return ""
	}
	return "journal: slot " + strconv.Itoa(f.Slot) + ", byte " + strconv.Itoa(f.At) + ": errno " + strconv.Itoa(int(f.Why))
}

// Unwrap gives its reason.
func (f *Fault) Unwrap() error {
	if f == nil || f.Why == api.OK {
		return nil
	}
	return f.Why
}

// Reason tells slot, place and reason of an error that Open answered.
func Reason(err error) (slot int, at int, why api.Errno) {
	// An error of another's making may panic as it is unwrapped: then nothing is found in it.
	defer func() {
		if recover() != nil {
			slot, at, why = neither, 0, api.ErrArg
		}
	}()
	if err == nil {
		return 0, 0, api.OK
	}
	var fault *Fault
	if errors.As(err, &fault) && fault != nil {
		return fault.Slot, fault.At, fault.Why
	}
	var number api.Errno
	if errors.As(err, &number) {
		return neither, 0, number
	}
	return neither, 0, api.ErrArg
}
