package history

import (
	"shard/api"
	"shard/text"
	"shard/wire"
)

const (
	blank   = " "
	lineEnd = "\n"
)

// statusWords are the words of the statuses that an answer to a request can have, as layer 3 prints them; that of none is said of a call whose outcome is not known.
var statusWords = [...]string{
	"unknown",
	api.StOK:       "ok",
	api.StMissing:  "missing",
	api.StDiffers:  "differs",
	api.StNoCredit: "nocredit",
}

// statusNamed gives the status of a word; that of no answer, if it is none's.
func statusNamed(word string) api.Status {
	for status, w := range statusWords {
		if w == word {
			return api.Status(status)
		}
	}
	return 0
}

// addressText gives an address in text.
func addressText(a api.Addr) string {
	switch wire.RoleOf(a) {
	case api.RoleHost:
		return "h" + decimal(a)
	case api.RoleClient:
		return "c" + decimal(clientNumber(a))
	case api.RoleAdmin:
		return "admin"
	}
	return "@" + decimal(a)
}

// clientNamed gives the client of an address in text; a host, if it is none's.
func clientNamed(word string) api.Addr {
	for a := api.FirstClient; a < api.Admin; a++ {
		if addressText(a) == word {
			return a
		}
	}
	return 0
}

// decimal prints a number that is not below 0.
func decimal[T api.Addr | int | uint64](n T) string {
	s, _ := text.Digits(uint64(n), 0)
	return s
}

// printed gives the line of a message that may be.
func printed(m api.Message) string {
	s, _ := wire.Print(m)
	return s
}
