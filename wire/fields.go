package wire

import (
	"shard/api"
	"shard/codec"
)

// A field is one that a kind of message uses, with all that is done to it. The fields ahead of it are
// filled in when it is taken or read: its rules may hang on them.
type field interface {
	name() string
	put(to *codec.Writer, m *api.Message)
	take(from *body, m *api.Message)
	print(m *api.Message) string
	read(from *line, m *api.Message)
	check(m *api.Message) api.Errno
	clear(m *api.Message)
}

// fieldsOf is the table of the fields that a kind uses, in their order; of a reply those that every reply has.
func fieldsOf(kind api.Kind) []field {
	switch kind {
	case api.KGet, api.KDelete:
		return []field{seq, key}
	case api.KSet:
		return []field{seq, key, value}
	case api.KCas:
		return []field{seq, key, expected{}, value}
	case api.KScan:
		return []field{seq, key, reach{hi}, limit}
	case api.KReply:
		return []field{seq, of, status}
	case api.KRedirect:
		return []field{seq, key, reach{hi}, host}
	case api.KShard:
		return []field{seq, key, reach{hi}, host, grant, bounds}
	case api.KDone:
		return []field{seq, status}
	case api.KData:
		return []field{seq, payload}
	case api.KAck:
		return []field{seq, mask}
	case api.KDelegate:
		return []field{key, reach{hi}, grant, bounds, pairList{}, sessionList{}}
	}
	return nil
}

// answerOf is the table of the fields that a reply uses beside those that every reply has.
func answerOf(m *api.Message) []field {
	switch {
	case m.Kind != api.KReply:
		return nil
	case m.Of == api.KGet && m.Status == api.StOK:
		return []field{value}
	case m.Of == api.KScan:
		return []field{hi, pairList{}}
	}
	return nil
}

// each does something with every field that m uses, in their order. What a reply says besides is asked
// only when its first fields are done with: who takes or reads a message fills them in on the way.
func each(m *api.Message, do func(f field)) {
	for _, f := range fieldsOf(m.Kind) {
		do(f)
	}
	for _, f := range answerOf(m) {
		do(f)
	}
}

// A fault is what a field panics with that is not as it must be: its place and the error.
type fault struct {
	at  int
	err api.Errno
}
