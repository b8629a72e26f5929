package shell

import (
	"slices"
	"testing"

	"shard/api"
	"shard/audit"
	"shard/core"
	"shard/text"
)

// What no cluster ever shows can be told all the same: hosts that are at odds, and a log that is not linearizable.

func TestP18_4FindingsRows(t *testing.T) {
	found := []api.Finding{
		{Kind: api.FaultNone, Lo: 0, Hi: 4, Host: api.NoOne},
		{Kind: api.FaultTwo, Lo: 5, Hi: 1<<64 - 1, Host: api.NoOne},
		{Kind: api.FaultStray, Lo: 7, Hi: 7, Host: 1},
		{Kind: api.FaultPairs, Host: api.NoOne},
		{Kind: api.FaultBounds, Host: api.NoOne},
		{Kind: api.FaultBelow, Host: 15},
		{Kind: api.FaultPayload, Lo: 1, Hi: 1, Host: 0},
	}
	lines, e := tabled(found, api.OK, findingRow)
	want := []string{
		"none     0x0000000000000000  0x0000000000000004  @255",
		"two      0x0000000000000005  0xffffffffffffffff  @255",
		"stray    0x0000000000000007  0x0000000000000007  h1",
		"pairs    0x0000000000000000  0x0000000000000000  @255",
		"bounds   0x0000000000000000  0x0000000000000000  @255",
		"below    0x0000000000000000  0x0000000000000000  h15",
		"payload  0x0000000000000001  0x0000000000000001  h0",
	}
	if e != api.OK || !slices.Equal(lines, want) {
		t.Errorf("%q, %d; want %q", lines, e, want)
	}
}

// The rows of hosts that are at odds.
func TestP18_4HoldRows(t *testing.T) {
	for _, c := range []struct {
		hold api.Hold
		want []string
	}{
		{api.Hold{Lo: 1, Hi: 2}, []string{"0x0000000000000001", "0x0000000000000002", "-", "-"}},
		{api.Hold{Hosts: []api.Addr{0, 3, 15}, Flights: []int{0, 12}}, []string{"0x0000000000000000", "0x0000000000000000", "h0 h3 h15", "f0 f12"}},
	} {
		if got := holdRow(c.hold); !slices.Equal(got, c.want) {
			t.Errorf("%+v: %q; want %q", c.hold, got, c.want)
		}
	}
}

func TestP18_4Verdicts(t *testing.T) {
	for _, c := range []struct {
		verdict api.Verdict
		want    []string
	}{
		{api.Verdict{Key: 0}, []string{"not linearizable at key 0"}},
		{api.Verdict{Key: 1<<64 - 1}, []string{"not linearizable at key 18446744073709551615"}},
		{api.Verdict{Ok: true}, []string{"linearizable", "order"}},
		{api.Verdict{Ok: true, Order: []int{3, 0, 12}}, []string{"linearizable", "order 3 0 12"}},
	} {
		if got := verdictLines(c.verdict); !slices.Equal(got, c.want) {
			t.Errorf("%+v: %q; want %q", c.verdict, got, c.want)
		}
	}
}

// An error of the call, or of the table, is answered, and no lines.
func TestP18_4TableErrors(t *testing.T) {
	if lines, e := tabled([]api.Segment{{}}, api.ErrPicture, segmentRow); lines != nil || e != api.ErrPicture {
		t.Errorf("%q, %d", lines, e)
	}
	for n, want := range map[int]api.Errno{0: api.OK, 256: api.OK, 257: api.ErrWords} {
		lines, e := tabled(make([]api.Segment, n), api.OK, segmentRow)
		if e != want || e == api.OK && len(lines) != n || e != api.OK && len(lines) > 0 {
			t.Errorf("%d rows: %d lines, %d", n, len(lines), e)
		}
	}
}

// The longest rows fit into a table's cells: 16 hosts and as many flights as their cell holds.
func TestP18_4LongClaims(t *testing.T) {
	h := api.Hold{}
	for a := range api.Addr(16) {
		h.Hosts = append(h.Hosts, a)
	}
	if lines, e := tabled([]api.Hold{h}, api.OK, holdRow); e != api.OK || len(lines) != 1 {
		t.Errorf("%q, %d", lines, e)
	}
	for range 300 {
		h.Flights = append(h.Flights, 7)
	}
	if lines, e := tabled([]api.Hold{h}, api.OK, holdRow); e != api.ErrLong || len(lines) != 0 {
		t.Errorf("%q, %d", lines, e)
	}
	if text.Width(holdRow(h)[3]) <= api.MaxCols {
		t.Errorf("no longer than a cell")
	}
}

// audit finds faults of every kind with a word, and no other.
func TestP18_4FaultWords(t *testing.T) {
	c := api.Config{Hosts: 2, Pairs: 2, Bounds: 3, Queue: 2, Window: 2, Group: 1, Keep: 1, MTU: 64, Net: 1, Patience: 1, Tries: 1}
	p := api.Picture{Config: c}
	for h := range api.Addr(2) {
		k, e := core.New(c, h)
		if e != api.OK {
			t.Fatal(e)
		}
		p.Hosts = append(p.Hosts, k.State())
	}
	p.Hosts[1].Table = []api.Segment{{Lo: 0, Hi: 4, Host: 0}, {Lo: 5, Hi: 9, Host: 1}, {Lo: 10, Hi: 1<<64 - 1, Host: 0}}
	found, e := audit.Check(p, 3)
	lines, e1 := tabled(found, e, findingRow)
	want := []string{"two     0x0000000000000005  0x0000000000000009  @255", "bounds  0x0000000000000000  0x0000000000000000  @255"}
	if e1 != api.OK || !slices.Equal(lines, want) {
		t.Errorf("%q, %d; want %q", lines, e1, want)
	}
	if len(faultWords) != int(api.FaultPayload)+1 {
		t.Errorf("%d words", len(faultWords))
	}
}
