package wire

import "shard/api"

// Check tells whether a message may be.
func Check(m api.Message) api.Errno {
	if !isKind(m.Kind) {
		return api.ErrKind
	}
	found := api.OK
	unused := m
	each(&m, func(f field) {
		f.clear(&unused)
		// An order is told only where all fields are as they may be.
		if e := f.check(&m); e != api.OK && found != api.ErrField {
			found = e
		}
	})
	if !isBlank(&unused) {
		return api.ErrField
	}
	return found
}

// isBlank tells whether all fields but the kind are zero or empty.
func isBlank(m *api.Message) bool {
	for n := seq; n <= mask; n++ {
		if n.get(m) != 0 {
			return false
		}
	}
	return !m.Has && len(m.Old) == 0 && len(m.Value) == 0 && len(m.Payload) == 0 && len(m.Pairs) == 0 && len(m.Sessions) == 0
}

// saysStatus tells whether a reply to what it answers, or a done, may say this status.
func saysStatus(m *api.Message, st api.Status) bool {
	if m.Kind == api.KDone {
		return st == api.StOK || api.StNoCredit <= st && st <= api.StQueue
	}
	return answersStatus(m.Of, st)
}

// answersStatus tells whether a request of this kind may be answered by this status.
func answersStatus(asked api.Kind, st api.Status) bool {
	switch asked {
	case api.KGet, api.KDelete:
		return st == api.StOK || st == api.StMissing
	case api.KSet:
		return st == api.StOK || st == api.StNoCredit
	case api.KCas:
		return st == api.StOK || st == api.StDiffers || st == api.StNoCredit
	case api.KScan:
		return st == api.StOK
	}
	return false
}

// keepsStatus tells whether a session may have this status: one that answers a changing request.
func keepsStatus(st api.Status) bool {
	return answersStatus(api.KSet, st) || answersStatus(api.KDelete, st) || answersStatus(api.KCas, st)
}
