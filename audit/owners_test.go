package audit_test

import (
	"slices"
	"testing"

	"shard/api"
	"shard/audit"
)

func areHolds(t *testing.T, p api.Picture, want ...api.Hold) {
	t.Helper()
	got, e := audit.Owners(p)
	isShown(t, "Owners", got, e, want, api.OK)
	isShown(t, "the chapter's", docOwners(p), api.OK, want, api.OK)
}

// hold gives a range with its owners.
func hold(lo, hi uint64, hosts ...api.Addr) api.Hold { return api.Hold{Lo: lo, Hi: hi, Hosts: hosts} }

// with gives a range with the flights that cover it, too.
func with(h api.Hold, flights ...int) api.Hold {
	h.Flights = flights
	return h
}

func TestP16_3Examples(t *testing.T) {
	areHolds(t, started(2), hold(0, top, 0))
	areHolds(t, handed(t), with(hold(0, 7), 0), hold(8, top, 0))
	areHolds(t, installed(t), hold(0, 7, 1), hold(8, top, 0))
	p := handed(t)
	p.Hosts[1].Table = []api.Segment{seg(0, 4, 0), seg(5, 9, 1), seg(10, top, 0)}
	areHolds(t, p, with(hold(0, 4), 0), with(hold(5, 7, 1), 0), hold(8, 9, 0, 1), hold(10, top, 0))
}

// What a table says of other hosts claims nothing, and cuts nothing.
func TestP16_3OnlyOwnWord(t *testing.T) {
	p := started(4)
	p.Hosts[0].Table = []api.Segment{seg(0, 4, 1), seg(5, 9, 2), seg(10, 19, 3), seg(20, top, 1)}
	areHolds(t, p, hold(0, top))
	p.Hosts[3].Table = []api.Segment{seg(0, 7, 1), seg(8, 30, 3), seg(31, 40, 1), seg(41, top, 2)}
	areHolds(t, p, hold(0, 7), hold(8, 30, 3), hold(31, top))
	p.Hosts[2].Table = []api.Segment{seg(0, 0, 2), seg(1, top-1, 3), seg(top, top, 2)}
	areHolds(t, p, hold(0, 0, 2), hold(1, 7), hold(8, 30, 3), hold(31, top-1), hold(top, top, 2))
}

// One owner behind the other: a cut; the same owners on both sides of a key where another host's word changes: none.
func TestP16_3Neighbours(t *testing.T) {
	p := started(3)
	p.Hosts[0].Table = []api.Segment{seg(0, 9, 0), seg(10, top, 1)}
	p.Hosts[1].Table = []api.Segment{seg(0, 9, 0), seg(10, top, 1)}
	p.Hosts[2].Table = []api.Segment{seg(0, 5, 0), seg(6, 20, 1), seg(21, top, 0)}
	areHolds(t, p, hold(0, 9, 0), hold(10, top, 1))
	p.Hosts[2].Table = []api.Segment{seg(0, 9, 2), seg(10, top, 0)}
	areHolds(t, p, hold(0, 9, 0, 2), hold(10, top, 1))
}

// A flight whose place another one takes is another claim, though it comes from the same host.
func TestP16_3FlightBehindFlight(t *testing.T) {
	p := started(2)
	p.Hosts[0].Table = []api.Segment{seg(0, top, 1)}
	queued(&p, 0, 1, 0, packet(t, delegate(0, 9)), packet(t, delegate(10, 19)))
	areHolds(t, p, with(hold(0, 9), 0), with(hold(10, 19), 1), hold(20, top))
	queued(&p, 0, 1, 0, packet(t, delegate(10, 19)), packet(t, delegate(0, 9)))
	areHolds(t, p, with(hold(0, 9), 1), with(hold(10, 19), 0), hold(20, top))
	queued(&p, 0, 1, 0, packet(t, delegate(0, 9)), packet(t, delegate(11, top)))
	areHolds(t, p, with(hold(0, 9), 0), hold(10, 10), with(hold(11, top), 1))
}

func TestP16_3FlightOverFlight(t *testing.T) {
	p := started(3)
	p.Hosts[0].Table = []api.Segment{seg(0, top, 1)}
	queued(&p, 2, 0, 0, packet(t, delegate(5, 5)), packet(t, delegate(0, top)))
	queued(&p, 0, 1, 0, packet(t, delegate(0, 9)), packet(t, delegate(5, 14)))
	areHolds(t, p, with(hold(0, 4), 0, 3), with(hold(5, 5), 0, 1, 2, 3), with(hold(6, 9), 0, 1, 3), with(hold(10, 14), 1, 3), with(hold(15, top), 3))
	p.Hosts[1].Table = []api.Segment{seg(0, 5, 1), seg(6, top, 0)}
	areHolds(t, p, with(hold(0, 4, 1), 0, 3), with(hold(5, 5, 1), 0, 1, 2, 3), with(hold(6, 9), 0, 1, 3), with(hold(10, 14), 1, 3), with(hold(15, top), 3))
}

// Two flights of the same range are two claims, with one cut at each end.
func TestP16_3Twins(t *testing.T) {
	p := started(2)
	queued(&p, 1, 0, 3, packet(t, delegate(4, 9)), packet(t, delegate(4, 9)))
	areHolds(t, p, hold(0, 3, 0), with(hold(4, 9, 0), 0, 1), hold(10, top, 0))
	queued(&p, 1, 0, 3, packet(t, delegate(0, top)), packet(t, delegate(0, top)))
	areHolds(t, p, with(hold(0, top, 0), 0, 1))
}

// A flight that is no delegation covers nothing, key 0 neither, but has a number.
func TestP16_3NoDelegation(t *testing.T) {
	p := started(2)
	queued(&p, 0, 1, 0, []byte("x"), packet(t, delegate(0, 0)))
	areHolds(t, p, with(hold(0, 0, 0), 1), hold(1, top, 0))
	queued(&p, 0, 1, 0, []byte("x"), []byte("y"))
	areHolds(t, p, hold(0, top, 0))
}

func TestP16_3Ends(t *testing.T) {
	p := started(2)
	queued(&p, 0, 1, 0, packet(t, delegate(0, 0)), packet(t, delegate(top, top)))
	areHolds(t, p, with(hold(0, 0, 0), 0), hold(1, top-1, 0), with(hold(top, top, 0), 1))
	queued(&p, 0, 1, 0, packet(t, delegate(top-1, top-1)))
	areHolds(t, p, hold(0, top-2, 0), with(hold(top-1, top-1, 0), 0), hold(top, top, 0))
	queued(&p, 0, 1, 0, packet(t, delegate(1, top)))
	areHolds(t, p, hold(0, 0, 0), with(hold(1, top, 0), 0))
}

func TestP16_3AllHosts(t *testing.T) {
	p := started(16)
	var all []api.Addr
	for h := range p.Hosts {
		p.Hosts[h].Table = []api.Segment{seg(0, top, api.Addr(h))}
		all = append(all, api.Addr(h))
	}
	areHolds(t, p, hold(0, top, all...))
	p.Hosts[15].Table = []api.Segment{seg(0, 99, 15), seg(100, top, 3)}
	areHolds(t, p, hold(0, 99, all...), hold(100, top, all[:15]...))
}

// Every way in which three hosts and two flights can claim a few keys.
func TestP16_3AllSmall(t *testing.T) {
	tables := smallTables(3)
	var payloads [][]byte
	for lo := range uint64(3) {
		for hi := lo; hi < 3; hi++ {
			payloads = append(payloads, packet(t, delegate(lo, hi)))
		}
	}
	payloads = append(payloads, []byte("x"), packet(t, delegate(1, top)))
	d := diceOf(1)
	for _, a := range tables {
		for _, b := range tables {
			p := started(3)
			p.Hosts[0].Table, p.Hosts[1].Table, p.Hosts[2].Table = a, b, tables[d.Intn(len(tables))]
			queued(&p, 0, 1, 0, payloads[d.Intn(len(payloads))], payloads[d.Intn(len(payloads))])
			queued(&p, 2, 0, 0, payloads[d.Intn(len(payloads))])
			got, e := audit.Owners(p)
			isShown(t, "Owners", got, e, docOwners(p), api.OK)
		}
	}
}

// smallTables gives all tables of some hosts that are cut at 1, 2 and 3 alone.
func smallTables(hosts int) [][]api.Segment {
	var out [][]api.Segment
	for n := range hosts * hosts * hosts * hosts {
		var table []api.Segment
		for lo := range uint64(4) {
			host := api.Addr(n % hosts)
			n /= hosts
			if i := len(table) - 1; i >= 0 && table[i].Host == host {
				table[i].Hi = lo
			} else {
				table = append(table, seg(lo, lo, host))
			}
		}
		table[len(table)-1].Hi = top
		out = append(out, table)
	}
	return out
}

// All keys are told, rising, and no two neighbours have the same claims.
func TestP16_3Shape(t *testing.T) {
	for seed := range 500 {
		p := diceOf(seed).picture(t)
		holds, e := audit.Owners(p)
		isSame(t, "Owners", e, api.OK)
		next := uint64(0)
		for i, h := range holds {
			if h.Lo != next || h.Hi < h.Lo || (h.Hi == top) != (i == len(holds)-1) {
				t.Fatalf("%v", holds)
			}
			if i > 0 && slices.Equal(holds[i-1].Hosts, h.Hosts) && slices.Equal(holds[i-1].Flights, h.Flights) {
				t.Fatalf("neighbours with the same claims: %v", holds)
			}
			if !slices.IsSorted(h.Hosts) || !slices.IsSorted(h.Flights) {
				t.Fatalf("claims that do not rise: %v", h)
			}
			next = h.Hi + 1
		}
	}
}
