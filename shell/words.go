package shell

import (
	"strconv"
	"strings"

	"shard/api"
	"shard/text"
	"shard/wire"
)

const (
	blank     = " "
	lineEnd   = "\n"
	maxNumber = 1<<31 - 1
)

// The words that stand in lines beside those of forms and questions.
const (
	clusterWord = "cluster"
	nameWord    = "name"
	askWord     = "ask"
	atWord      = "at"
	noneWord    = "none"
	adminWord   = "admin"
)

// configWords are the names of a configuration's numbers, in the order in which they are written.
var configWords = [...]string{"hosts", "clients", "pairs", "bounds", "queue", "window", "group", "keep", "mtu", "net", "patience", "tries"}

// configPlaces gives where a configuration has its numbers, in the order of their names.
func configPlaces(c *api.Config) [len(configWords)]*int {
	return [...]*int{&c.Hosts, &c.Clients, &c.Pairs, &c.Bounds, &c.Queue, &c.Window, &c.Group, &c.Keep, &c.MTU, &c.Net, &c.Patience, &c.Tries}
}

// askWords are the words of the questions, by what is asked.
var askWords = [...]string{
	api.AskNet:    "net",
	api.AskCount:  "count",
	api.AskOwners: "owners",
	api.AskPairs:  "pairs",
	api.AskAudit:  "audit",
	api.AskLog:    "log",
	api.AskLinear: "linear",
	api.AskMoves:  "moves",
	api.AskTable:  "table",
	api.AskNode:   "node",
	api.AskClient: "client",
	api.AskHints:  "hints",
}

func isQuestion(what api.AskKind) bool { return what >= api.AskNet && what <= api.AskHints }

// asksOf tells whether a question is asked of somebody.
func asksOf(what api.AskKind) bool { return what >= api.AskTable }

// questionNamed gives the question of a word; none, if it is no question's.
func questionNamed(word string) api.AskKind {
	for what, w := range askWords {
		if w == word {
			return api.AskKind(what)
		}
	}
	return 0
}

// addressMarks are what addresses begin with that have a number behind it: whose the number 0 is, and the greatest number.
var addressMarks = [...]struct {
	mark  string
	first api.Addr
	most  api.Addr
}{
	{"h", 0, api.MaxHosts - 1},
	{"c", api.FirstClient, api.MaxClients - 1},
	{"@", 0, api.NoOne},
}

// addressNamed gives the address that a word says by itself.
func addressNamed(word string) (api.Addr, bool) {
	if word == adminWord {
		return api.Admin, true
	}
	for _, m := range addressMarks {
		digits, marked := strings.CutPrefix(word, m.mark)
		n, _, e := text.Number(digits)
		// Number reads hexadecimal digits too.
		if marked && e == api.OK && n <= uint64(m.most) && decimal(n) == digits {
			return m.first + api.Addr(n), true
		}
	}
	return 0, false
}

func addressText(a api.Addr) string {
	switch wire.RoleOf(a) {
	case api.RoleHost:
		return "h" + decimal(a)
	case api.RoleClient:
		return "c" + decimal(a-api.FirstClient)
	case api.RoleAdmin:
		return adminWord
	}
	return "@" + decimal(a)
}

// decimal prints a number. One below 0 comes out as one that is greater than any that a line may say.
func decimal[T api.Addr | uint8 | int | uint64](n T) string { return strconv.FormatUint(uint64(n), 10) }

// hexadecimal prints a key, as long as the longest.
func hexadecimal(key uint64) string {
	s, _ := text.Digits(key, 2)
	return s
}

func quoted(value []byte) string { return text.Quote(string(value)) }

// spaced puts words together, as scripts have them.
func spaced(words ...string) string { return strings.Join(words, blank) }

// listed puts parts together, as answers have them.
func listed(parts ...string) string { return strings.Join(parts, ", ") }

// figure is a part of an answer: a number by its name.
func figure[T int | uint64](name string, n T) string { return spaced(name, decimal(n)) }

// page is a text that grows line by line.
type page struct{ strings.Builder }

// line lays a line down that is made of parts.
func (p *page) line(parts ...string) {
	for _, part := range parts {
		p.WriteString(part)
	}
	p.WriteString(lineEnd)
}
