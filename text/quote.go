package text

import (
	"strconv"
	"strings"

	"shard/api"
)

// Quote gives the quoted text of a byte string.
func Quote(b string) string {
	var out strings.Builder
	out.WriteByte('"')
	for p := range cut(b) {
		quotePiece(&out, b[p.At:p.At+p.Size], p)
	}
	out.WriteByte('"')
	return out.String()
}

// quotePiece prints one piece, whose own bytes are own.
func quotePiece(out *strings.Builder, own string, p api.Piece) {
	switch {
	case p.Broken:
		// A broken byte is 0x80 or above, so it has two digits.
		out.WriteString(`\x`)
		out.WriteString(strconv.FormatInt(int64(p.Rune), 16))
	case p.Rune == '"':
		out.WriteString(`\"`)
	case p.Rune == '\\':
		out.WriteString(`\\`)
	case p.Rune == '\n':
		out.WriteString(`\n`)
	case p.Rune == '\r':
		out.WriteString(`\r`)
	case p.Rune == '\t':
		out.WriteString(`\t`)
	case Plain(p.Rune):
		out.WriteString(own)
	default:
		out.WriteString(`\u{`)
		out.WriteString(strconv.FormatInt(int64(p.Rune), 16))
		out.WriteByte('}')
	}
}

// Unquote gives back what was quoted, and the place of the first fault.
func Unquote(s string) (string, int, api.Errno) {
	if !strings.HasPrefix(s, `"`) {
		return "", 0, api.ErrQuote
	}
	value, end, e := readQuoted(s)
	if e != api.OK {
		return "", end, e
	}
	if end < len(s) {
		return "", end, api.ErrQuote
	}
	return value, 0, api.OK
}

// readQuoted reads a text that begins with a quotation mark up to its closing one: what it stands for,
// and the place behind the closing mark, or that of the fault.
func readQuoted(s string) (string, int, api.Errno) {
	var value strings.Builder
	next := 1 // pieces ahead of it are read already: the opening mark, or the rest of an escape
	for p := range cut(s) {
		if p.At < next {
			continue
		}
		switch {
		case p.Broken:
			return "", p.At, api.ErrBroken
		case p.Rune == '"':
			return value.String(), p.At + 1, api.OK
		case p.Rune == '\\':
			meant, size := readEscape(s[p.At:])
			if size == 0 {
				return "", p.At, api.ErrEscape
			}
			value.WriteString(meant)
			next = p.At + size
		case !Plain(p.Rune):
			return "", p.At, api.ErrEscape
		default:
			value.WriteString(s[p.At : p.At+p.Size])
		}
	}
	return "", len(s), api.ErrQuote
}

// readEscape reads the escape at the begin of s, whose first byte is a backslash: what it stands for
// and how many bytes it takes; 0 bytes, if it is none.
func readEscape(s string) (string, int) {
	if len(s) < 2 {
		return "", 0
	}
	switch s[1] {
	case '"', '\\':
		return s[1:2], 2
	case 'n':
		return "\n", 2
	case 'r':
		return "\r", 2
	case 't':
		return "\t", 2
	case 'x':
		return readByteEscape(s)
	case 'u':
		return readRuneEscape(s)
	}
	return "", 0
}

// readByteEscape reads \x and two hexadecimal digits.
func readByteEscape(s string) (string, int) {
	if len(s) < 4 {
		return "", 0
	}
	high, okHigh := hexDigit(s[2])
	low, okLow := hexDigit(s[3])
	if !okHigh || !okLow {
		return "", 0
	}
	return string([]byte{high<<4 | low}), 4
}

// readRuneEscape reads \u{, one to six hexadecimal digits, and }.
func readRuneEscape(s string) (string, int) {
	const head, most = len(`\u{`), 6
	if !strings.HasPrefix(s, `\u{`) {
		return "", 0
	}
	var r rune
	at := head
	for at < len(s) && at < head+most {
		digit, ok := hexDigit(s[at])
		if !ok {
			break
		}
		r = r<<4 | rune(digit)
		at++
	}
	if at == head || at == len(s) || s[at] != '}' {
		return "", 0
	}
	meant, e := Encode(r)
	if e != api.OK {
		return "", 0
	}
	return meant, at + 1
}
