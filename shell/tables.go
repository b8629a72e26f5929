package shell

import (
	"shard/api"
	"shard/audit"
	"shard/cluster"
	"shard/text"
)

// faultWords are the words of what an audit finds.
var faultWords = [...]string{
	api.FaultNone:    "none",
	api.FaultTwo:     "two",
	api.FaultStray:   "stray",
	api.FaultPairs:   "pairs",
	api.FaultBounds:  "bounds",
	api.FaultBelow:   "below",
	api.FaultPayload: "payload",
}

// tabled lays things out in columns, a row each, unless the call that gave them has refused.
func tabled[T any](list []T, e api.Errno, row func(T) []string) ([]string, api.Errno) {
	if e != api.OK {
		return nil, e
	}
	var rows [][]string
	for _, item := range list {
		rows = append(rows, row(item))
	}
	lines, _, e := text.Table(rows)
	return lines, e
}

func answerOwners(c *cluster.Cluster, _ api.Addr) ([]string, api.Errno) {
	holds, e := audit.Owners(c.Picture())
	return tabled(holds, e, holdRow)
}

func holdRow(h api.Hold) []string {
	var hosts, flights []string
	for _, a := range h.Hosts {
		hosts = append(hosts, addressText(a))
	}
	for _, f := range h.Flights {
		flights = append(flights, "f"+decimal(f))
	}
	return []string{hexadecimal(h.Lo), hexadecimal(h.Hi), claimText(hosts), claimText(flights)}
}

func claimText(claims []string) string {
	if len(claims) == 0 {
		return "-"
	}
	return spaced(claims...)
}

func answerPairs(c *cluster.Cluster, _ api.Addr) ([]string, api.Errno) {
	pairs, e := audit.Union(c.Picture())
	return tabled(pairs, e, func(p api.Pair) []string { return []string{decimal(p.Key), quoted(p.Value)} })
}

func answerAudit(c *cluster.Cluster, _ api.Addr) ([]string, api.Errno) {
	found, e := audit.Check(c.Picture(), workers)
	return tabled(found, e, findingRow)
}

func findingRow(f api.Finding) []string {
	return []string{faultWords[f.Kind], hexadecimal(f.Lo), hexadecimal(f.Hi), addressText(f.Host)}
}

func answerMoves(c *cluster.Cluster, _ api.Addr) ([]string, api.Errno) {
	moves, e := c.Plan()
	return tabled(moves, e, moveRow)
}

func moveRow(m api.Move) []string {
	return []string{addressText(m.From), addressText(m.To), hexadecimal(m.Lo), hexadecimal(m.Hi), decimal(m.Pairs)}
}

func answerTable(c *cluster.Cluster, a api.Addr) ([]string, api.Errno) {
	hosts := c.Picture().Hosts
	if int(a) >= len(hosts) {
		return nil, api.ErrArg
	}
	return tabled(hosts[a].Table, api.OK, segmentRow)
}

func answerHints(c *cluster.Cluster, a api.Addr) ([]string, api.Errno) {
	segments, e := c.Hints(a)
	return tabled(segments, e, segmentRow)
}

func segmentRow(s api.Segment) []string {
	return []string{hexadecimal(s.Lo), hexadecimal(s.Hi), addressText(s.Host)}
}
