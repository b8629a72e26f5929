package shell

import (
	"math"
	"strings"

	"shard/api"
	"shard/text"
)

// rest is what is left to be read of a line. It is read word by word, and asked at its end whether all words were as they must be.
type rest struct {
	words []api.Word
	names map[string]api.Addr // that earlier lines have given
	wrong bool
}

// need makes the line wrong unless something holds.
func (r *rest) need(holds bool) { r.wrong = r.wrong || !holds }

// next takes the next word.
func (r *rest) next() api.Word {
	r.need(len(r.words) > 0)
	if r.wrong {
		return api.Word{}
	}
	w := r.words[0]
	r.words = r.words[1:]
	return w
}

// end tells whether the line is read to its end, and nothing of it is wrong.
func (r *rest) end() api.Errno {
	if r.wrong || len(r.words) > 0 {
		return api.ErrUsage
	}
	return api.OK
}

// bare takes a word that may not stand in quotes.
func (r *rest) bare() string {
	w := r.next()
	r.need(!w.Quoted)
	return w.Text
}

// skip takes the next word if it is this one, bare.
func (r *rest) skip(word string) bool {
	is := len(r.words) > 0 && !r.words[0].Quoted && r.words[0].Text == word
	if is {
		r.next()
	}
	return is
}

func (r *rest) value() []byte { return []byte(r.next().Text) }

// upTo gives a word's number, which may not be above a bound.
func (r *rest) upTo(word string, most uint64) uint64 {
	n, _, e := text.Number(word)
	r.need(e == api.OK && n <= most)
	return n
}

func (r *rest) key() uint64 { return r.upTo(r.bare(), math.MaxUint64) }

func (r *rest) number() int { return int(r.upTo(r.bare(), maxNumber)) }

// small takes a number that fits into a byte.
func (r *rest) small() uint8 { return uint8(r.upTo(r.bare(), math.MaxUint8)) }

// setting takes a number with its name ahead.
func (r *rest) setting(name string) int {
	digits, named := strings.CutPrefix(r.bare(), name+"=")
	r.need(named)
	return int(r.upTo(digits, maxNumber))
}

// name takes a name that may be given; it is folded.
func (r *rest) name() string {
	name, _, e := text.Name(r.bare())
	_, isAddress := addressNamed(name)
	_, isGiven := r.names[name]
	r.need(e == api.OK && !isAddress && !isGiven)
	return name
}

func (r *rest) address() api.Addr {
	a, there := addressOf(r.bare(), r.names)
	r.need(there)
	return a
}

// addressOf gives the address that a word says, by itself or as a name.
func addressOf(word string, names map[string]api.Addr) (api.Addr, bool) {
	if a, said := addressNamed(word); said {
		return a, true
	}
	// A word that is no name comes back empty, which nobody has given.
	name, _, _ := text.Name(word)
	a, given := names[name]
	return a, given
}
