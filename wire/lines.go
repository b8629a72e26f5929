package wire

import (
	"strings"

	"shard/api"
	"shard/text"
)

// Print gives a message as a line.
func Print(m api.Message) (string, api.Errno) {
	if e := Check(m); e != api.OK {
		return "", e
	}
	var out strings.Builder
	out.WriteString(KindName(m.Kind))
	each(&m, func(f field) { out.WriteString(label(f) + f.print(&m)) })
	return out.String(), api.OK
}

// label is what stands ahead of a field's text.
func label(f field) string { return " " + f.name() + "=" }

// Read gives the message of a line, and the place of the first fault.
func Read(line string) (m api.Message, at int, e api.Errno) {
	defer func() {
		if f, ok := recover().(fault); ok {
			m, at, e = api.Message{}, f.at, f.err
		}
	}()
	return readFields(line), 0, api.OK
}

// readFields gives the message of a line in which nothing is at fault.
func readFields(s string) api.Message {
	from := &line{text: s}
	m := api.Message{Kind: kindOf(from.word())}
	if m.Kind == 0 {
		from.refuse()
	}
	each(&m, func(f field) {
		from.starts()
		from.expect(label(f))
		f.read(from, &m)
	})
	from.finish()
	return m
}

// A line is read from the left, field by field.
type line struct {
	text  string
	at    int // how far it is read
	begin int // the place of the field that is being read
}

// starts marks the place of a field.
func (l *line) starts() { l.begin = l.at }

// refuse tells the fault of the field that is being read.
func (l *line) refuse() { panic(fault{l.begin, api.ErrPrint}) }

// finish refuses what stands behind the last field.
func (l *line) finish() {
	l.starts()
	if l.at < len(l.text) {
		l.refuse()
	}
}

// skip goes behind s, if it stands there, and tells whether it did.
func (l *line) skip(s string) bool {
	if !strings.HasPrefix(l.text[l.at:], s) {
		return false
	}
	l.at += len(s)
	return true
}

// expect goes behind s, which must stand there.
func (l *line) expect(s string) {
	if !l.skip(s) {
		l.refuse()
	}
}

// span goes behind all bytes of a sort that stand there.
func (l *line) span(isOne func(c byte) bool) string {
	begin := l.at
	for l.at < len(l.text) && isOne(l.text[l.at]) {
		l.at++
	}
	return l.text[begin:l.at]
}

func isSmallLetter(c byte) bool { return 'a' <= c && c <= 'z' }

func isDigit(c byte) bool { return '0' <= c && c <= '9' }

func isSmallHex(c byte) bool { return isDigit(c) || 'a' <= c && c <= 'f' }

func (l *line) word() string { return l.span(isSmallLetter) }

func (l *line) number() uint64 {
	x, _, e := text.Number(l.span(isDigit))
	if e != api.OK {
		l.refuse()
	}
	return x
}

// mask reads a number in the one form in which masks are printed.
func (l *line) mask() uint64 {
	l.expect("0x")
	digits := l.span(isSmallHex)
	if len(digits) != 16 {
		l.refuse()
	}
	x, _, _ := text.Number("0x" + digits)
	return x
}

// quoted reads a quoted text, which must be the one that is printed for its bytes.
func (l *line) quoted() []byte {
	own := l.text[l.at : l.at+quotedSize(l.text[l.at:])]
	meant, _, e := text.Unquote(own)
	if e != api.OK || text.Quote(meant) != own {
		l.refuse()
	}
	l.at += len(own)
	return []byte(meant)
}

// quotedSize tells how many bytes the quoted text at the begin of s has; 0, if it does not end. Whether a
// quotation mark begins it, is not looked at: Unquote takes no other text.
func quotedSize(s string) int {
	for i := 1; i < len(s); i++ {
		switch s[i] {
		case '\\':
			i++
		case '"':
			return i + 1
		}
	}
	return 0
}

// list reads elements with a comma between each two, in brackets.
func (l *line) list(element func()) {
	l.expect("[")
	if l.skip("]") {
		return
	}
	element()
	for l.skip(",") {
		element()
	}
	l.expect("]")
}
