package client

import (
	"bytes"

	"shard/api"
)

// Outcome tells how far the last request is.
func (c *Client) Outcome() api.Outcome {
	if !c.made() {
		return api.Outcome{}
	}
	told := c.outcome
	told.Value = bytes.Clone(told.Value)
	told.Pairs = copyPairs(told.Pairs)
	return told
}

// Request tells the last request.
func (c *Client) Request() api.Request {
	if !c.made() {
		return api.Request{}
	}
	return copyRequest(c.request)
}

// Hints tells whom the client believes each key to be with.
func (c *Client) Hints() []api.Segment {
	if !c.made() {
		return nil
	}
	return c.hints.List()
}

func copyPairs(pairs []api.Pair) []api.Pair {
	var copied []api.Pair
	for _, p := range pairs {
		copied = append(copied, api.Pair{Key: p.Key, Value: bytes.Clone(p.Value)})
	}
	return copied
}
