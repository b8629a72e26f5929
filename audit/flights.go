package audit

import (
	"shard/api"
	"shard/wire"
)

// alongside is how many boundary credits go along with every delegation.
const alongside = 2

// Live tells the delegations that are on their way.
func Live(p api.Picture) ([]api.Flight, api.Errno) {
	all, e := hostsOf(p)
	if e != api.OK {
		return nil, e
	}
	return all.flights(), api.OK
}

func (all hosts) flights() []api.Flight {
	var live []api.Flight
	for _, from := range all {
		for _, to := range all {
			live = append(live, flightsBetween(from, to)...)
		}
	}
	return live
}

func flightsBetween(from, to host) []api.Flight {
	var live []api.Flight
	sent, delivered := from.End.Peers[to.Self], to.End.Peers[from.Self].Delivered
	for i, payload := range sent.Queue {
		// The last payload has the number Sent, so that none comes round to 0.
		if seq := sent.Acked + 1 + uint64(i); seq > delivered {
			live = append(live, api.Flight{From: from.Self, To: to.Self, Seq: seq, M: delegationOf(payload)})
		}
	}
	return live
}

// delegationOf gives the delegation that a payload is, the zero message if it is none.
func delegationOf(payload []byte) api.Message {
	m, _, e := wire.Parse(payload)
	if e != api.OK || m.Kind != api.KDelegate {
		return api.Message{}
	}
	return m
}

func isDelegation(f api.Flight) bool { return f.M.Kind == api.KDelegate }

// Credits tells the sums of pair credits and pairs, and of boundary credits and boundaries.
func Credits(p api.Picture) (int, int, api.Errno) {
	all, e := hostsOf(p)
	if e != api.OK {
		return 0, 0, e
	}
	pairs, bounds := all.credits(all.flights())
	return pairs, bounds, api.OK
}

func (all hosts) credits(flights []api.Flight) (int, int) {
	pairs, bounds := 0, 0
	for _, h := range all {
		pairs += h.Free + len(h.Pairs)
		bounds += h.Spare + len(h.Table) - 1
	}
	for _, f := range flights {
		if isDelegation(f) {
			pairs += int(f.M.Grant) + len(f.M.Pairs)
			bounds += int(f.M.Bounds) + alongside
		}
	}
	return pairs, bounds
}
