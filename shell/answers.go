package shell

import (
	"shard/api"
	"shard/cluster"
	"shard/frag"
	"shard/history"
	"shard/linear"
	"shard/wire"
)

const workers = 3 // with which audit and linear are asked

// listAnswers says of each question how it is answered.
func listAnswers() map[api.AskKind]answer {
	return map[api.AskKind]answer{
		api.AskNet:    answerNet,
		api.AskCount:  answerCount,
		api.AskOwners: answerOwners,
		api.AskPairs:  answerPairs,
		api.AskAudit:  answerAudit,
		api.AskLog:    answerLog,
		api.AskLinear: answerLinear,
		api.AskMoves:  answerMoves,
		api.AskTable:  answerTable,
		api.AskNode:   answerNode,
		api.AskClient: answerClient,
		api.AskHints:  answerHints,
	}
}

func answerNet(c *cluster.Cluster, _ api.Addr) ([]string, api.Errno) {
	var lines []string
	for place, d := range c.Net() {
		way := decimal(place) + ": " + addressText(d.From) + " > " + addressText(d.To)
		lines = append(lines, listed(way, dataText(d.Data)))
	}
	return lines, api.OK
}

// dataText tells what a datagram carries.
func dataText(data []byte) string {
	f, e := frag.Look(data)
	if e != api.OK {
		return decimal(len(data)) + " bytes"
	}
	parts := []string{figure("packet", f.Id), figure("part", f.Index+1) + " of " + decimal(f.Count)}
	if f.Count == 1 {
		if m, _, e := wire.Parse(f.Part); e == api.OK {
			line, _ := wire.Print(m)
			parts = append(parts, line)
		}
	}
	return listed(parts...)
}

func answerCount(c *cluster.Cluster, _ api.Addr) ([]string, api.Errno) {
	n := c.Count()
	return []string{listed(
		figure("sent", n.Sent),
		figure("injected", n.Injected),
		figure("delivered", n.Delivered),
		figure("copied", n.Copied),
		figure("dropped", n.Dropped),
		figure("lost", n.Lost),
		figure("barred", n.Barred),
	)}, api.OK
}

func answerLog(c *cluster.Cluster, _ api.Addr) ([]string, api.Errno) {
	return eventLines(c.Events()), api.OK
}

func answerLinear(c *cluster.Cluster, _ api.Addr) ([]string, api.Errno) {
	calls, _, e := history.Fold(c.Events())
	if e != api.OK {
		return nil, e
	}
	v, e := linear.Check(calls, workers)
	if e != api.OK {
		return nil, e
	}
	return verdictLines(v), api.OK
}

func verdictLines(v api.Verdict) []string {
	if !v.Ok {
		return []string{figure("not linearizable at key", v.Key)}
	}
	order := []string{"order"}
	for _, call := range v.Order {
		order = append(order, decimal(call))
	}
	return []string{"linearizable", spaced(order...)}
}

func answerNode(c *cluster.Cluster, a api.Addr) ([]string, api.Errno) {
	n, e := c.Node(a)
	if e != api.OK {
		return nil, e
	}
	return []string{nodeText(n), hostText(c.Picture().Hosts[a])}, api.OK
}

func nodeText(n api.NodeInfo) string {
	state := "down"
	if n.Up {
		state = "up"
	}
	return listed(
		state,
		figure("epoch", n.Epoch),
		figure("held", n.Held),
		figure("partial", n.Partial),
		figure("slot", n.Journal.Slot),
		figure("records", n.Journal.Records),
		figure("bytes", n.Journal.Bytes),
		figure("waiting", n.Journal.Waiting),
		figure("unsynced", n.Journal.Unsynced),
	)
}

func hostText(h api.HostState) string {
	return listed(
		figure("free", h.Free),
		figure("spare", h.Spare),
		figure("pairs", len(h.Pairs)),
		figure("sessions", len(h.Sessions)),
		figure("segments", len(h.Table)),
	)
}

// phaseWords are the words of how far a client's request is.
var phaseWords = [...]string{
	api.PhIdle:    "idle",
	api.PhWaiting: "waiting",
	api.PhDone:    "done",
	api.PhUnknown: "unknown",
}

// statusWords are the words of the statuses that a request's answer can have.
var statusWords = [...]string{
	api.StOK:       "ok",
	api.StMissing:  "missing",
	api.StDiffers:  "differs",
	api.StNoCredit: "nocredit",
}

func answerClient(c *cluster.Cluster, a api.Addr) ([]string, api.Errno) {
	o, e := c.Client(a)
	if e != api.OK {
		return nil, e
	}
	return []string{outcomeText(o)}, api.OK
}

func outcomeText(o api.Outcome) string {
	parts := []string{phaseWords[o.Phase]}
	if o.Phase != api.PhIdle {
		parts = append(parts, figure("seq", o.Seq), spaced("host", addressText(o.Host)), figure("sent", o.Sent), figure("hops", o.Hops))
	}
	if o.Phase == api.PhDone {
		parts = append(parts, spaced("status", statusWords[o.Status]))
	}
	if len(o.Value) > 0 {
		parts = append(parts, spaced("value", quoted(o.Value)))
	}
	for _, p := range o.Pairs {
		parts = append(parts, decimal(p.Key)+"="+quoted(p.Value))
	}
	return listed(parts...)
}
