package shell

import "shard/api"

// printer prints a script line by line.
type printer struct {
	page     page
	commands []form
	clients  []form
}

// printScript prints what lines can say of a script whose questions may be.
func printScript(s api.Script) string {
	p := &printer{commands: commandForms(), clients: clientForms()}
	p.header(s.Config)
	inOrder(s, p.ask, p.step)
	return p.page.String()
}

func (p *printer) header(c api.Config) {
	words := []string{clusterWord}
	for i, place := range configPlaces(&c) {
		words = append(words, configWords[i]+"="+decimal(*place))
	}
	p.page.line(spaced(words...))
}

func (p *printer) ask(a api.Ask) { p.page.line(askText(a)) }

func askText(a api.Ask) string {
	words := []string{askWord, askWords[a.What]}
	if asksOf(a.What) {
		words = append(words, addressText(a.A))
	}
	return spaced(words...)
}

// step prints a step; of one that no form says, a line without words.
func (p *printer) step(_ int, s api.Step) { p.page.line(spaced(p.words(s)...)) }

func (p *printer) words(s api.Step) []string {
	for _, f := range p.commands {
		if f.begun.Kind == s.Kind && f.begun.On == s.On {
			return f.words(&s)
		}
	}
	for _, f := range p.clients {
		if f.begun.Kind == s.Kind && f.begun.Req.Kind == s.Req.Kind {
			return append(whoWords(s), f.words(&s)...)
		}
	}
	return nil
}

// whoWords are what a client's line begins with.
func whoWords(s api.Step) []string {
	if s.On {
		return []string{addressText(s.A), atWord, addressText(s.B)}
	}
	return []string{addressText(s.A)}
}
