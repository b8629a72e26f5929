package shell

import (
	"shard/api"
	"shard/cluster"
	"shard/history"
)

// under stands ahead of a line that belongs to the one above.
const under = "  "

// player plays a script, and writes down what comes of it.
type player struct {
	page    page
	cluster *cluster.Cluster
	answers map[api.AskKind]answer
}

// answer gives the lines of an answer to a question.
type answer func(*cluster.Cluster, api.Addr) ([]string, api.Errno)

func newPlayer(c *cluster.Cluster) *player { return &player{cluster: c, answers: listAnswers()} }

func (p *player) step(number int, s api.Step) {
	a := p.cluster.Step(s)
	p.page.line(listed(decimal(number)+": "+errnoText(a.Err), figure("sent", a.Sent)))
	p.lay(eventLines(a.Events))
}

func errnoText(e api.Errno) string {
	if e == api.OK {
		return "ok"
	}
	return e.Error()
}

// eventLines gives the lines of a cluster's events: they all may be.
func eventLines(events []api.Event) []string {
	var lines []string
	for _, e := range events {
		line, _ := history.Line(e)
		lines = append(lines, line)
	}
	return lines
}

func (p *player) ask(a api.Ask) {
	p.page.line(askText(a))
	lines, e := p.answers[a.What](p.cluster, a.A)
	switch {
	case e != api.OK:
		lines = []string{errnoText(e)}
	case len(lines) == 0:
		lines = []string{"nothing"}
	}
	p.lay(lines)
}

// lay lays down lines that belong to the one above.
func (p *player) lay(lines []string) {
	for _, line := range lines {
		p.page.line(under, line)
	}
}
