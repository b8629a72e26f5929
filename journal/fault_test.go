package journal_test

import (
	"errors"
	"fmt"
	"math"
	"testing"

	"shard/api"
	"shard/journal"
)

func TestP9_10FaultAsText(t *testing.T) {
	for _, c := range []struct {
		f    *journal.Fault
		want string
	}{
		{nil, ""},
		{&journal.Fault{}, "journal: slot 0, byte 0: errno 0"},
		{&journal.Fault{Slot: -1, Why: api.ErrNoState}, "journal: slot -1, byte 0: errno 93"},
		{&journal.Fault{Slot: 1, At: 16777216, Why: api.ErrSlots}, "journal: slot 1, byte 16777216: errno 96"},
		{&journal.Fault{Slot: math.MinInt, At: math.MaxInt, Why: -7}, "journal: slot -9223372036854775808, byte 9223372036854775807: errno -7"},
	} {
		if got := c.f.Error(); got != c.want {
			t.Errorf("%q; want %q", got, c.want)
		}
	}
}

func TestP9_10FaultUnwrapped(t *testing.T) {
	var none *journal.Fault
	if none.Unwrap() != nil || (&journal.Fault{Slot: 1, At: 5}).Unwrap() != nil {
		t.Error("a nil fault, or one whose reason is OK, gives a reason")
	}
	for _, why := range []api.Errno{api.ErrNil, api.ErrRot, api.ErrNoState, -5, 1 << 40} {
		if got := (&journal.Fault{Slot: 1, At: 5, Why: why}).Unwrap(); got != why {
			t.Errorf("%v; want %v", got, why)
		}
	}
}

// What Open answers is told by errors.Is and errors.As, however often it is wrapped.
func TestP9_10OpenErrorsAreFound(t *testing.T) {
	for _, c := range []struct {
		d     api.Disk
		limit int
		want  journal.Fault
	}{
		{diskOf(nil, nil), 0, journal.Fault{Slot: -1, At: 0, Why: api.ErrSlots}},
		{diskOf(nil, make([]byte, 65)), 64, journal.Fault{Slot: 1, At: 64, Why: api.ErrSlots}},
		{diskOf(slotOf(1, "", ""), nil), 64, journal.Fault{Slot: 0, At: 24, Why: api.ErrRot}},
		{diskOf(nil, nil), 64, journal.Fault{Slot: -1, At: 0, Why: api.ErrNoState}},
	} {
		_, _, err := journal.Open(c.d, c.limit)
		for range 5 {
			var fault *journal.Fault
			var why api.Errno
			if !errors.As(err, &fault) || *fault != c.want || !errors.As(err, &why) || why != c.want.Why {
				t.Errorf("%v: %v, %d; want %v", err, fault, why, &c.want)
			}
			for e := range api.Errno(200) {
				if errors.Is(err, e) != (e == c.want.Why) {
					t.Errorf("%v: is %d", err, e)
				}
			}
			isReason(t, err, c.want.Slot, c.want.At, c.want.Why)
			err = fmt.Errorf("further out: %w", err)
		}
	}
}

func isReason(t *testing.T, err error, slot, at int, why api.Errno) {
	t.Helper()
	if s, a, w := journal.Reason(err); s != slot || a != at || w != why {
		t.Errorf("Reason: %d, %d, %d; want %d, %d, %d", s, a, w, slot, at, why)
	}
}

// Errors of another's making.

type claims struct{ as func(target any) bool } // finds in itself what it likes

func (c claims) Error() string { return "claims" }

func (c claims) As(target any) bool { return c.as(target) }

type breaks struct{ why any } // panics as it is unwrapped

func (b *breaks) Error() string { panic(b.why) }

func (b *breaks) Unwrap() error { panic(b.why) }

type listed []error // no two of them may be compared

func (l listed) Error() string { return "listed" }

func (l listed) Unwrap() []error { return l }

func TestP9_10Reason(t *testing.T) {
	var none *journal.Fault
	rot := &journal.Fault{Slot: 1, At: 24, Why: api.ErrRot}
	gen := &journal.Fault{Slot: 0, At: 4, Why: api.ErrGen}
	fine := &journal.Fault{Slot: 1, At: 7}
	wrap := func(err error) error { return fmt.Errorf("wrapped: %w", err) }
	for i, c := range []struct {
		err      error
		slot, at int
		why      api.Errno
	}{
		{nil, 0, 0, api.OK},
		{rot, 1, 24, api.ErrRot},
		{fine, 1, 7, api.OK},
		{wrap(wrap(wrap(rot))), 1, 24, api.ErrRot},
		{errors.Join(errors.New("other"), wrap(rot), gen), 1, 24, api.ErrRot},
		{errors.Join(api.ErrDead, wrap(gen), rot), 0, 4, api.ErrGen},
		{listed{nil, wrap(nil), rot}, 1, 24, api.ErrRot},
		// A nil fault tells nothing: then the number that is found counts, one of a later fault too.
		{none, -1, 0, api.ErrArg},
		{wrap(none), -1, 0, api.ErrArg},
		{errors.Join(none, rot), -1, 0, api.ErrRot},
		{errors.Join(none, fine), -1, 0, api.ErrArg},
		{errors.Join(none, errors.New("other"), api.ErrDown), -1, 0, api.ErrDown},
		{errors.Join(rot, none), 1, 24, api.ErrRot},
		// Numbers alone.
		{api.ErrRot, -1, 0, api.ErrRot},
		{wrap(wrap(api.ErrBusy)), -1, 0, api.ErrBusy},
		{api.OK, -1, 0, api.OK},
		{api.Errno(-9), -1, 0, -9},
		{errors.Join(api.ErrSlot, api.ErrDead), -1, 0, api.ErrSlot},
		// Nothing.
		{errors.New("other"), -1, 0, api.ErrArg},
		{wrap(errors.New("other")), -1, 0, api.ErrArg},
		{listed(nil), -1, 0, api.ErrArg},
		{claims{func(any) bool { return false }}, -1, 0, api.ErrArg},
		// An As of their own.
		{claims{func(target any) bool { p, ok := target.(**journal.Fault); return ok && set(p, gen) }}, 0, 4, api.ErrGen},
		{claims{func(target any) bool { p, ok := target.(*api.Errno); return ok && set(p, api.ErrUp) }}, -1, 0, api.ErrUp},
		{claims{func(target any) bool { _, ok := target.(**journal.Fault); return ok }}, -1, 0, api.ErrArg},
		{claims{func(target any) bool { p, ok := target.(**journal.Fault); return ok && set(p, gen) && false }}, -1, 0, api.ErrArg},
		// Those that panic.
		{&breaks{"why"}, -1, 0, api.ErrArg},
		{(*breaks)(nil), -1, 0, api.ErrArg},
		{&breaks{nil}, -1, 0, api.ErrArg},
		{wrap2(&breaks{errors.New("why")}), -1, 0, api.ErrArg},
		{claims{nil}, -1, 0, api.ErrArg},
		{errors.Join(rot, &breaks{"why"}), 1, 24, api.ErrRot},
	} {
		t.Run(fmt.Sprint(i), func(t *testing.T) { isReason(t, c.err, c.slot, c.at, c.why) })
	}
}

func set[T any](p *T, x T) bool {
	*p = x
	return true
}

// wrap2 wraps an error without asking for its text.
func wrap2(err error) error { return listed{err} }

func TestP9_10DeeplyWrapped(t *testing.T) {
	var err error = &journal.Fault{Slot: 1, At: 9, Why: api.ErrRot}
	var number error = api.ErrGen
	for range 1 << 16 {
		err, number = listed{err}, listed{number}
	}
	isReason(t, err, 1, 9, api.ErrRot)
	isReason(t, number, -1, 0, api.ErrGen)
}
