package history

import (
	"strings"

	"shard/api"
	"shard/text"
	"shard/wire"
)

const (
	quote   = `"`
	between = ".." // a call's places
)

// Print prints calls.
func Print(calls []api.Call) (string, api.Errno) {
	if _, e := Check(calls); e != api.OK {
		return "", e
	}
	var out strings.Builder
	for _, c := range calls {
		out.WriteString(callText(c))
		out.WriteString(lineEnd)
	}
	return out.String(), api.OK
}

// callText gives the line of a call that may be.
func callText(c api.Call) string {
	words := []string{addressText(c.Who), placesText(c), statusWords[c.Status]}
	if c.Req.Kind == api.KGet && c.Status == api.StOK {
		words = append(words, text.Quote(string(c.Value)))
	}
	words = append(words, printed(messageOf(c.Req, c.Seq)))
	return strings.Join(words, blank)
}

func placesText(c api.Call) string {
	s := decimal(c.Begin) + between
	if isKnown(c) {
		s += decimal(c.End)
	}
	return s
}

// Parse gives the calls of a text, and the line of the first fault.
func Parse(s string) ([]api.Call, int, api.Errno) {
	var calls []api.Call
	for number := 1; s != ""; number++ {
		line, rest, ended := strings.Cut(s, lineEnd)
		c := readCall(line)
		if f := faultOfLine(line, ended, c); f != noFault {
			return nil, number, f.errno()
		}
		calls = append(calls, c)
		s = rest
	}
	if i, e := Check(calls); e != api.OK {
		return nil, i + 1, e
	}
	return calls, 0, api.OK
}

// faultOfLine tells what is wrong with a line that was read as a call.
func faultOfLine(line string, ended bool, c api.Call) fault {
	switch {
	case !ended:
		return notEnded
	case faultOf(c) != noFault:
		return noCall
	case callText(c) != line:
		return writtenElse
	}
	return noFault
}

// readCall reads a line's call. It refuses nothing: of a line that is at fault any call may come, since its own line is another, or it may not be.
func readCall(line string) api.Call {
	who, rest, _ := strings.Cut(line, blank)
	places, rest, _ := strings.Cut(rest, blank)
	status, rest, _ := strings.Cut(rest, blank)
	value, rest := cutValue(rest)
	m, _, _ := wire.Read(rest)
	c := api.Call{Who: clientNamed(who), Seq: m.Seq, Req: requestOf(m), Status: statusNamed(status), Value: value}
	c.Begin, c.End = readPlaces(places)
	return c
}

func readPlaces(s string) (int, int) {
	first, last, _ := strings.Cut(s, between)
	begin, _, _ := text.Number(first)
	if last == "" {
		return int(begin), notKnown
	}
	end, _, _ := text.Number(last)
	return int(begin), int(end)
}

// cutValue takes the value that stands ahead of a message, if one does. The value ends with the last quotation mark of all, since a get, the one request with a value ahead of it, has none in its message.
func cutValue(s string) ([]byte, string) {
	if !strings.HasPrefix(s, quote) {
		return nil, s
	}
	end := strings.LastIndex(s, quote) + len(quote)
	value, _, _ := text.Unquote(s[:end])
	return []byte(value), strings.TrimPrefix(s[end:], blank)
}
