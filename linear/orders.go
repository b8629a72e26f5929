package linear

import "shard/api"

// Obeys tells whether an order of the calls shows them to be linearizable.
func Obeys(calls []api.Call, order []int) bool {
	return allMayBe(calls) && stand(calls, order) && inTime(calls, order) && play(calls, order)
}

// stand tells whether all numbers in the orders are those of calls that are no Scans, each once, and whether every call whose outcome is known is among them.
func stand(calls []api.Call, orders ...[]int) bool {
	stands := make([]bool, len(calls))
	for _, order := range orders {
		for _, n := range order {
			if n < 0 || n >= len(calls) || stands[n] || isScan(calls[n]) {
				return false
			}
			stands[n] = true
		}
	}
	for n, c := range calls {
		if isKnown(c) && !isScan(c) && !stands[n] {
			return false
		}
	}
	return true
}

// inTime tells whether no call stands behind one that it is before.
func inTime(calls []api.Call, order []int) bool {
	latest := api.Call{} // that of those ahead which begins last: a call that is before any of them is before that one
	for _, n := range order {
		if isBefore(calls[n], latest) {
			return false
		}
		if calls[n].Begin > latest.Begin {
			latest = calls[n]
		}
	}
	return true
}

// play tells whether each call can take effect as those ahead of it have left its key.
func play(calls []api.Call, order []int) bool {
	cells := map[uint64]cell{}
	for _, n := range order {
		key := calls[n].Req.Key
		can, behind := effect(calls[n], cells[key])
		if !can {
			return false
		}
		cells[key] = behind
	}
	return true
}
