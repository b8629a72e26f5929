package shell

import (
	"strings"

	"shard/api"
	"shard/text"
)

// cutLines gives the lines of a text; false, if they are more than may be. The empty text comes out as one line without words, which says as little as none.
func cutLines(s string) ([]string, bool) {
	s = strings.TrimSuffix(s, lineEnd)
	if strings.Count(s, lineEnd) >= api.MaxLines {
		return nil, false
	}
	return strings.Split(s, lineEnd), true
}

// reader reads a script line by line.
type reader struct {
	script   api.Script
	names    map[string]api.Addr // that lines have given, folded
	commands map[string]command  // by a line's first word
	verbs    map[string]form     // by the word behind a client's address
}

// command reads what stands behind a line's first word.
type command func(*rest) api.Errno

func newReader() *reader {
	r := &reader{names: map[string]api.Addr{}, verbs: map[string]form{}}
	r.commands = map[string]command{nameWord: r.name, askWord: r.ask}
	for _, f := range commandForms() {
		r.commands[f.word] = func(l *rest) api.Errno { return r.step(f, f.begun, l) }
	}
	for _, f := range clientForms() {
		r.verbs[f.word] = f
	}
	return r
}

// read reads all lines; the number of the first one at fault.
func (r *reader) read(lines []string) (int, api.Errno) {
	headed := false
reading:
	for i, line := range lines {
		words, _, e := text.Words(line)
		switch {
		case e != api.OK:
			return i + 1, e
		case len(words) == 0:
			continue reading
		case headed:
			e = r.line(words)
		default:
			headed, e = true, r.header(words)
		}
		if e != api.OK {
			return i + 1, e
		}
	}
	if !headed {
		return len(lines), api.ErrHeader
	}
	return 0, api.OK
}

func (r *reader) header(words []api.Word) api.Errno {
	if words[0].Quoted || words[0].Text != clusterWord || len(words) != 1+len(configWords) {
		return api.ErrHeader
	}
	l := &rest{words: words[1:]}
	for i, place := range configPlaces(&r.script.Config) {
		*place = l.setting(configWords[i])
	}
	return l.end()
}

func (r *reader) line(words []api.Word) api.Errno {
	l := &rest{words: words, names: r.names}
	first := l.bare()
	if l.wrong {
		return api.ErrCommand
	}
	if read, there := r.commands[first]; there {
		return read(l)
	}
	if who, there := addressOf(first, r.names); there {
		return r.client(who, l)
	}
	return api.ErrCommand
}

// client reads what a client's line says behind the address.
func (r *reader) client(who api.Addr, l *rest) api.Errno {
	verb := l.bare()
	f, there := r.verbs[verb]
	switch {
	case l.wrong:
		return api.ErrCommand
	case verb == atWord:
		return r.clientAt(who, l)
	case !there:
		return api.ErrCommand
	}
	s := f.begun
	s.A = who
	return r.step(f, s, l)
}

// clientAt reads what a client's line says that names a host.
func (r *reader) clientAt(who api.Addr, l *rest) api.Errno {
	host := l.address()
	f := r.verbs[l.bare()]
	if f.begun.Kind != api.SBegin {
		return api.ErrUsage
	}
	s := f.begun
	s.A, s.B, s.On = who, host, true
	return r.step(f, s, l)
}

// step reads the fields of a step that is begun.
func (r *reader) step(f form, s api.Step, l *rest) api.Errno {
	f.read(l, &s)
	e := l.end()
	if e == api.OK {
		r.script.Steps = append(r.script.Steps, s)
	}
	return e
}

func (r *reader) name(l *rest) api.Errno {
	name, a := l.name(), l.address()
	e := l.end()
	if e == api.OK {
		r.names[name] = a
	}
	return e
}

func (r *reader) ask(l *rest) api.Errno {
	a := api.Ask{At: len(r.script.Steps), What: questionNamed(l.bare())}
	if l.wrong || !isQuestion(a.What) {
		return api.ErrCommand
	}
	if asksOf(a.What) {
		a.A = l.address()
	}
	e := l.end()
	if e == api.OK {
		r.script.Asks = append(r.script.Asks, a)
	}
	return e
}
