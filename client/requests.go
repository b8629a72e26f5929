package client

import (
	"bytes"

	"shard/api"
)

// isRequest tells whether a kind is a request's. It is asked beside wire's Check, which lets others through: a request's fields can make a Redirect, a Shard or an Ack that may be.
func isRequest(kind api.Kind) bool {
	switch kind {
	case api.KGet, api.KSet, api.KDelete, api.KCas, api.KScan:
		return true
	}
	return false
}

// messageOf gives the message of a request; it shares the request's lists.
func messageOf(r api.Request, seq uint64) api.Message {
	return api.Message{Kind: r.Kind, Seq: seq, Key: r.Key, Hi: r.Hi, Value: r.Value, Old: r.Old, Has: r.Has, Limit: r.Limit}
}

func copyRequest(r api.Request) api.Request {
	r.Value = bytes.Clone(r.Value)
	r.Old = bytes.Clone(r.Old)
	return r
}
