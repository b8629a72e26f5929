package history

import (
	"strings"

	"shard/api"
	"shard/text"
	"shard/wire"
)

// eventWords are what a line says that its event does, by the event's kind.
var eventWords = [...]string{
	api.EvInvoke: "begins",
	api.EvReturn: "ends",
	api.EvGiveUp: "gives up",
	api.EvShard:  "asks",
	api.EvDone:   "hears",
}

// eventMayBe tells whether an event may be.
func eventMayBe(e api.Event) bool {
	if e.Step < 0 {
		return false
	}
	switch e.Kind {
	case api.EvInvoke:
		return isClient(e.Who) && requestMayBe(e.Req, e.Seq)
	case api.EvReturn:
		return isClient(e.Who) && e.Seq >= 1 && e.Out.Seq == e.Seq && outcomeMayBe(e.Out)
	case api.EvGiveUp:
		return isClient(e.Who) && e.Seq >= 1
	case api.EvShard:
		return isAdmins(e) && e.Shard.Kind == api.KShard && e.Shard.Seq == e.Seq && wire.Check(e.Shard) == api.OK
	case api.EvDone:
		return isAdmins(e) && wire.Check(doneOf(e)) == api.OK
	}
	return false
}

// isAdmins tells whether an event is between the admin and a host.
func isAdmins(e api.Event) bool { return e.Who == api.Admin && isHost(e.Host) }

// doneOf gives the message that an EvDone tells of.
func doneOf(e api.Event) api.Message {
	return api.Message{Kind: api.KDone, Seq: e.Seq, Status: e.Status}
}

// outcomeMayBe tells whether an EvReturn may have this outcome, as far as its request is not looked at.
func outcomeMayBe(o api.Outcome) bool {
	return o.Phase == api.PhDone &&
		o.Status >= api.StOK && o.Status <= api.StNoCredit &&
		isHost(o.Host) && o.Sent >= 1 && o.Hops >= 0 &&
		len(o.Value) <= api.MaxValue &&
		wire.Check(scanReply(o)) == api.OK
}

// scanReply gives the reply to a scan that has an outcome's pairs: layer 3 says by it whether they may be, and prints them.
func scanReply(o api.Outcome) api.Message {
	return api.Message{Kind: api.KReply, Seq: 1, Of: api.KScan, Status: api.StOK, Hi: o.Hi, Pairs: o.Pairs}
}

// Line prints an event.
func Line(e api.Event) (string, api.Errno) {
	if !eventMayBe(e) {
		return "", api.ErrEvent
	}
	words := []string{decimal(e.Step) + ":", addressText(e.Who), eventWords[e.Kind], detail(e)}
	return strings.Join(words, blank), api.OK
}

// detail is what a line says behind the event's word.
func detail(e api.Event) string {
	switch e.Kind {
	case api.EvInvoke:
		return printed(messageOf(e.Req, e.Seq))
	case api.EvReturn:
		return outcomeText(e.Out)
	case api.EvShard:
		return addressText(e.Host) + blank + printed(e.Shard)
	case api.EvDone:
		return addressText(e.Host) + blank + printed(doneOf(e))
	}
	return "seq=" + decimal(e.Seq)
}

func outcomeText(o api.Outcome) string {
	const hi = " hi="
	_, pairs, _ := strings.Cut(printed(scanReply(o)), hi)
	return "seq=" + decimal(o.Seq) +
		" status=" + statusWords[o.Status] +
		" host=" + decimal(o.Host) +
		" sent=" + decimal(o.Sent) +
		" hops=" + decimal(o.Hops) +
		" value=" + text.Quote(string(o.Value)) +
		hi + pairs
}
