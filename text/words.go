package text

import (
	"strings"

	"shard/api"
)

// Words gives the words of a line, and the place of the first fault.
func Words(line string) ([]api.Word, int, api.Errno) {
	if len(line) > api.MaxLine {
		return nil, api.MaxLine, api.ErrLong
	}
	var words []api.Word
	at := skipBlanks(line, 0)
	for at < len(line) && line[at] != '#' {
		if len(words) == api.MaxWords {
			return nil, at, api.ErrWords
		}
		word, end, e := readWord(line, at)
		if e != api.OK {
			return nil, end, e
		}
		words = append(words, word)
		at = skipBlanks(line, end)
	}
	return words, 0, api.OK
}

// Join gives a line whose words these are, and the number of the first that may not be.
func Join(words []api.Word) (string, int, api.Errno) {
	if len(words) > api.MaxWords {
		return "", 0, api.ErrWords
	}
	for i, w := range words {
		if !w.Quoted && !isBare(w.Text) {
			return "", i, api.ErrWord
		}
	}
	var line strings.Builder
	for i, w := range words {
		if i > 0 {
			line.WriteByte(' ')
		}
		if w.Quoted {
			line.WriteString(Quote(w.Text))
		} else {
			line.WriteString(w.Text)
		}
		if line.Len() > api.MaxLine {
			return "", api.MaxLine, api.ErrLong
		}
	}
	return line.String(), 0, api.OK
}

func isBlank(b byte) bool { return b == ' ' || b == '\t' }

// skipBlanks gives the first place from at on where no blank stands.
func skipBlanks(line string, at int) int {
	for at < len(line) && isBlank(line[at]) {
		at++
	}
	return at
}

// readWord reads the word that begins at a place of the line: the word and the place behind it, or that of the fault.
func readWord(line string, at int) (api.Word, int, api.Errno) {
	quoted := line[at] == '"'
	read := readBare
	if quoted {
		read = readQuoted
	}
	value, size, e := read(line[at:])
	end := at + size
	if e != api.OK {
		return api.Word{}, end, e
	}
	if quoted && end < len(line) && !isBlank(line[end]) {
		return api.Word{}, end, api.ErrQuote
	}
	return api.Word{Text: value, Quoted: quoted, At: at}, end, api.OK
}

// readBare reads a bare word up to the next blank: its bytes and the place behind it, or that of the fault.
func readBare(s string) (string, int, api.Errno) {
	for p := range cut(s) {
		if isBlank(s[p.At]) {
			return strings.Clone(s[:p.At]), p.At, api.OK
		}
		if e := bareFault(p); e != api.OK {
			return "", p.At, e
		}
	}
	return strings.Clone(s), len(s), api.OK
}

// bareFault tells why a piece may not stand in a bare word.
func bareFault(p api.Piece) api.Errno {
	switch {
	case p.Broken:
		return api.ErrBroken
	case p.Rune == '"', p.Rune == '\\', !Plain(p.Rune):
		return api.ErrWord
	}
	return api.OK
}

// isBare tells whether a whole text could stand as a bare word.
func isBare(s string) bool {
	if s == "" || s[0] == '#' {
		return false
	}
	_, end, e := readBare(s)
	return e == api.OK && end == len(s)
}
