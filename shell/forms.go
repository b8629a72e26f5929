package shell

import (
	"shard/api"
	"shard/text"
)

// form is how a line says a step: a word, behind it the fields. By the word alone the step is begun.
type form struct {
	word   string
	begun  api.Step
	fields []field
}

// field is what a line says of a step by one word.
type field interface {
	read(from *rest, to *api.Step)
	word(s *api.Step) string
}

func (f form) read(from *rest, to *api.Step) {
	for _, x := range f.fields {
		x.read(from, to)
	}
}

// words gives the form's word, and those of the fields.
func (f form) words(s *api.Step) []string {
	words := []string{f.word}
	for _, x := range f.fields {
		words = append(words, x.word(s))
	}
	return words
}

// The fields, by their sorts: each says where a step has it.
type (
	addressField func(*api.Step) *api.Addr
	numberField  func(*api.Step) *int
	keyField     func(*api.Step) *uint64
	byteField    func(*api.Step) *uint8
	valueField   func(*api.Step) *[]byte
	oldField     struct{} // what a Cas expects: a value, or none
)

func (f addressField) read(from *rest, to *api.Step) { *f(to) = from.address() }
func (f addressField) word(s *api.Step) string       { return addressText(*f(s)) }

func (f numberField) read(from *rest, to *api.Step) { *f(to) = from.number() }
func (f numberField) word(s *api.Step) string       { return decimal(*f(s)) }

func (f keyField) read(from *rest, to *api.Step) { *f(to) = from.key() }
func (f keyField) word(s *api.Step) string       { return decimal(*f(s)) }

func (f byteField) read(from *rest, to *api.Step) { *f(to) = from.small() }
func (f byteField) word(s *api.Step) string       { return decimal(*f(s)) }

func (f valueField) read(from *rest, to *api.Step) { *f(to) = from.value() }
func (f valueField) word(s *api.Step) string       { return valueText(*f(s)) }

func (oldField) read(from *rest, to *api.Step) {
	if to.Req.Has = !from.skip(noneWord); to.Req.Has {
		to.Req.Old = from.value()
	}
}

func (oldField) word(s *api.Step) string {
	if !s.Req.Has {
		return noneWord
	}
	return valueText(s.Req.Old)
}

// valueText prints a value. One of MaxLine bytes makes its line too long already: what is behind them is left out.
func valueText(value []byte) string {
	return text.Quote(string(value[:min(len(value), api.MaxLine)]))
}

// commandForms are the forms of the lines that begin with the form's word.
func commandForms() []form {
	a := addressField(func(s *api.Step) *api.Addr { return &s.A })
	b := addressField(func(s *api.Step) *api.Addr { return &s.B })
	n := numberField(func(s *api.Step) *int { return &s.N })
	m := numberField(func(s *api.Step) *int { return &s.M })
	lo := keyField(func(s *api.Step) *uint64 { return &s.Lo })
	hi := keyField(func(s *api.Step) *uint64 { return &s.Hi })
	data := valueField(func(s *api.Step) *[]byte { return &s.Data })
	return []form{
		{"shard", api.Step{Kind: api.SShard}, []field{a, b, lo, hi, n, m}},
		{"deliver", api.Step{Kind: api.SDeliver}, []field{n}},
		{"copy", api.Step{Kind: api.SDeliver, On: true}, []field{n}},
		{"drop", api.Step{Kind: api.SDrop}, []field{n}},
		{"inject", api.Step{Kind: api.SInject}, []field{a, b, data}},
		{"tick", api.Step{Kind: api.STick}, []field{a}},
		{"sync", api.Step{Kind: api.SSync}, []field{a}},
		{"compact", api.Step{Kind: api.SCompact}, []field{a}},
		{"restart", api.Step{Kind: api.SRestart}, []field{a}},
		{"crash", api.Step{Kind: api.SCrash}, []field{a, n}},
		{"block", api.Step{Kind: api.SBlock, On: true}, []field{a, b}},
		{"heal", api.Step{Kind: api.SBlock}, []field{a, b}},
		{"clear", api.Step{Kind: api.SClear}, nil},
		{"settle", api.Step{Kind: api.SSettle}, []field{n, lo}},
		{"plan", api.Step{Kind: api.SPlan}, []field{n}},
	}
}

// clientForms are the forms of the lines that begin with a client's address.
func clientForms() []form {
	key := keyField(func(s *api.Step) *uint64 { return &s.Req.Key })
	hi := keyField(func(s *api.Step) *uint64 { return &s.Req.Hi })
	limit := byteField(func(s *api.Step) *uint8 { return &s.Req.Limit })
	value := valueField(func(s *api.Step) *[]byte { return &s.Req.Value })
	return []form{
		{"get", begun(api.KGet), []field{key}},
		{"set", begun(api.KSet), []field{key, value}},
		{"delete", begun(api.KDelete), []field{key}},
		{"cas", begun(api.KCas), []field{key, oldField{}, value}},
		{"scan", begun(api.KScan), []field{key, hi, limit}},
		{"quit", api.Step{Kind: api.SGiveUp}, nil},
	}
}

func begun(kind api.Kind) api.Step {
	return api.Step{Kind: api.SBegin, Req: api.Request{Kind: kind}}
}
