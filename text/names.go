package text

import (
	"strings"

	"shard/api"
)

// Name reads a name and folds it, and tells the place of the first fault.
func Name(s string) (string, int, api.Errno) {
	if s == "" {
		return "", 0, api.ErrName
	}
	var name strings.Builder
	count := 0
	for p := range cut(s) {
		if p.Broken {
			return "", p.At, api.ErrBroken
		}
		folded, ok := foldNameRune(p.Rune, count == 0)
		if !ok || count == api.MaxName {
			return "", p.At, api.ErrName
		}
		name.WriteRune(folded)
		count++
	}
	return name.String(), 0, api.OK
}

// foldNameRune folds a rune of a name, and tells whether it may stand there.
func foldNameRune(r rune, first bool) (rune, bool) {
	if folded, ok := foldLetter(r); ok {
		return folded, true
	}
	digit := '0' <= r && r <= '9'
	joiner := r == '-' || r == '_' || r == '.'
	return r, !first && (digit || joiner)
}
