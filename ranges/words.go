package ranges

import (
	"strconv"
	"strings"

	"shard/api"
	"shard/text"
)

const blank = " "

// Text prints a table.
func (t *Table) Text() string {
	var out []byte
	for s := range t.All() {
		if len(out) > 0 {
			out = append(out, blank...)
		}
		out = addWord(out, s)
	}
	return string(out)
}

func addWord(out []byte, s api.Segment) []byte {
	out = strconv.AppendUint(out, s.Lo, 10)
	out = append(out, '-')
	out = strconv.AppendUint(out, s.Hi, 10)
	out = append(out, ':')
	return strconv.AppendUint(out, uint64(s.Host), 10)
}

// Read gives the table of a text, and the place of the first fault.
func Read(s string, limit int) (*Table, int, api.Errno) {
	if !mayBeLimit(limit) {
		return nil, 0, api.ErrLimit
	}
	var segs []api.Segment
	var begins []int
	at := 0
	for word := range strings.SplitSeq(s, blank) {
		seg, ok := segmentOf(word)
		if !ok {
			return nil, at, api.ErrTabText
		}
		segs, begins = append(segs, seg), append(begins, at)
		at += len(word) + len(blank)
	}
	t, number, e := load(segs, limit)
	switch {
	case e == api.OK:
		return t, 0, api.OK
	case number == len(segs):
		return nil, len(s), e
	}
	return nil, begins[number], e
}

// segmentOf reads a word, and tells whether it is of the form.
func segmentOf(word string) (api.Segment, bool) {
	lo, rest, _ := strings.Cut(word, "-")
	hi, host, _ := strings.Cut(rest, ":")
	first, okFirst := decimal(lo)
	last, okLast := decimal(hi)
	owner, okOwner := decimal(host)
	// Held against the addresses as it is: cut down to one, a great number would stand for a host.
	if !okFirst || !okLast || !okOwner || owner >= uint64(api.FirstClient) {
		return api.Segment{}, false
	}
	return api.Segment{Lo: first, Hi: last, Host: api.Addr(owner)}, true
}

// decimal reads a number of decimal digits. Number has a hexadecimal form besides, which no word of a table has.
func decimal(s string) (uint64, bool) {
	n, _, e := text.Number(s)
	return n, e == api.OK && !strings.HasPrefix(s, "0x")
}
