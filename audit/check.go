package audit

import (
	"sync"
	"sync/atomic"

	"shard/api"
)

// Digests gives a sum of each host's pairs, made by so many workers.
func Digests(p api.Picture, workers int) ([]uint64, api.Errno) {
	if !mayWork(workers) {
		return nil, api.ErrWorkers
	}
	all, e := hostsOf(p)
	if e != api.OK {
		return nil, e
	}
	return ofEach(all, workers, func(h host) uint64 { return Digest(h.Pairs) }), api.OK
}

// Check tells what does not go together, found by so many workers.
func Check(p api.Picture, workers int) ([]api.Finding, api.Errno) {
	if !mayWork(workers) {
		return nil, api.ErrWorkers
	}
	all, e := hostsOf(p)
	if e != api.OK {
		return nil, e
	}
	flights := all.flights()
	found := all.faultsOfKeys(flights)
	for _, faults := range ofEach(all, workers, host.faults) {
		found = append(found, faults...)
	}
	found = append(found, all.faultsOfSums(flights, p.Config)...)
	return append(found, faultsOfPayloads(flights)...), api.OK
}

func mayWork(workers int) bool { return workers >= 1 && workers <= api.MaxWorkers }

// ofEach gives what a look at each host tells, by rising host. The workers share nothing but the counter: each place of the answers is one worker's alone, and is read only when all are done.
func ofEach[T any](all hosts, workers int, look func(host) T) []T {
	told := make([]T, len(all))
	var taken atomic.Int64
	var working sync.WaitGroup
	for range min(workers, len(all)) {
		working.Add(1)
		go func() {
			defer working.Done()
			for next := taken.Add(1) - 1; next < int64(len(all)); next = taken.Add(1) - 1 {
				told[next] = look(all[next])
			}
		}()
	}
	working.Wait()
	return told
}

// faultsOfKeys tells the ranges that nobody claims, and those that are claimed more than once.
func (all hosts) faultsOfKeys(flights []api.Flight) []api.Finding {
	var found []api.Finding
	for s := range stretches(all.marks(flights)) {
		switch s.count() {
		case 0:
			found = append(found, api.Finding{Kind: api.FaultNone, Lo: s.lo, Hi: s.hi, Host: api.NoOne})
		case 1:
		default:
			found = append(found, api.Finding{Kind: api.FaultTwo, Lo: s.lo, Hi: s.hi, Host: api.NoOne})
		}
	}
	return found
}

// faults tells what is wrong with a host by itself.
func (h host) faults() []api.Finding {
	var found []api.Finding
	for _, p := range h.Pairs {
		if !h.owns(p.Key) {
			found = append(found, api.Finding{Kind: api.FaultStray, Lo: p.Key, Hi: p.Key, Host: h.Self})
		}
	}
	if h.Free < 0 || h.Spare < 0 {
		found = append(found, api.Finding{Kind: api.FaultBelow, Host: h.Self})
	}
	return found
}

// faultsOfSums tells which credits are not as many as the configuration gave.
func (all hosts) faultsOfSums(flights []api.Flight, c api.Config) []api.Finding {
	var found []api.Finding
	pairs, bounds := all.credits(flights)
	if pairs != c.Hosts*c.Pairs {
		found = append(found, api.Finding{Kind: api.FaultPairs, Host: api.NoOne})
	}
	if bounds != c.Hosts*c.Bounds {
		found = append(found, api.Finding{Kind: api.FaultBounds, Host: api.NoOne})
	}
	return found
}

func faultsOfPayloads(flights []api.Flight) []api.Finding {
	var found []api.Finding
	for _, f := range flights {
		if !isDelegation(f) {
			found = append(found, api.Finding{Kind: api.FaultPayload, Lo: f.Seq, Hi: f.Seq, Host: f.From})
		}
	}
	return found
}
