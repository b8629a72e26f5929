package shell

import (
	"bytes"
	"slices"

	"shard/api"
)

// asksMayBe tells whether a script's questions are questions, each asked at a place that is there, and none ahead of one that stands before it.
func asksMayBe(s api.Script) bool {
	last := 0
	for _, a := range s.Asks {
		if a.At < last || a.At > len(s.Steps) || !isQuestion(a.What) {
			return false
		}
		last = a.At
	}
	return true
}

// inOrder goes through the steps and questions of a script whose questions may be.
func inOrder(s api.Script, ask func(api.Ask), step func(int, api.Step)) {
	asks := s.Asks
	for number := range len(s.Steps) + 1 {
		for len(asks) > 0 && asks[0].At == number {
			ask(asks[0])
			asks = asks[1:]
		}
		if number < len(s.Steps) {
			step(number, s.Steps[number])
		}
	}
}

// sameScript tells whether two scripts are the same; an empty list is the same as none.
func sameScript(a, b api.Script) bool {
	return a.Config == b.Config && slices.EqualFunc(a.Steps, b.Steps, sameStep) && slices.Equal(a.Asks, b.Asks)
}

func sameStep(a, b api.Step) bool {
	return a.Kind == b.Kind && a.On == b.On &&
		a.A == b.A && a.B == b.B &&
		a.N == b.N && a.M == b.M &&
		a.Lo == b.Lo && a.Hi == b.Hi &&
		bytes.Equal(a.Data, b.Data) && sameRequest(a.Req, b.Req)
}

func sameRequest(a, b api.Request) bool {
	return a.Kind == b.Kind && a.Has == b.Has && a.Limit == b.Limit &&
		a.Key == b.Key && a.Hi == b.Hi &&
		bytes.Equal(a.Value, b.Value) && bytes.Equal(a.Old, b.Old)
}
