// Package text: byte strings as printable text, over runes: see DOC.md, chapter 01.
package text

import (
	"iter"
	"strings"
	"unicode/utf8"

	"shard/api"
)

// Pieces takes a string apart into runes; bytes that are no UTF-8 are pieces of their own.
func Pieces(s string) []api.Piece {
	pieces := make([]api.Piece, 0, utf8.RuneCountInString(s))
	for p := range cut(s) {
		pieces = append(pieces, p)
	}
	return pieces
}

// Encode gives a rune's UTF-8.
func Encode(r int32) (string, api.Errno) {
	if !utf8.ValidRune(r) {
		return "", api.ErrRune
	}
	return string(r), api.OK
}

// Plain tells whether a rune stands for itself in a quoted text.
func Plain(r int32) bool { return kindOf(r) != hidden }

// cut goes through a string's pieces without laying them all down, so that a long string needs no list.
func cut(s string) iter.Seq[api.Piece] {
	return func(yield func(api.Piece) bool) {
		for at, r := range s {
			if !yield(pieceAt(s, at, r)) {
				return
			}
		}
	}
}

// pieceAt makes the piece of a rune that a range over s met at a place. The range tells a broken byte
// by U+FFFD, which may also stand there whole: only its three bytes tell the two apart.
func pieceAt(s string, at int, r rune) api.Piece {
	if r == utf8.RuneError && !strings.HasPrefix(s[at:], "\uFFFD") {
		return api.Piece{Rune: int32(s[at]), At: at, Size: 1, Broken: true}
	}
	return api.Piece{Rune: r, At: at, Size: utf8.RuneLen(r)}
}
