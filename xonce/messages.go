package xonce

import "shard/api"

// bare tells whether a message has no field but those that a Data or an Ack may have.
func bare(m api.Message) bool {
	return m.Key == 0 && m.Hi == 0 && len(m.Value) == 0 && len(m.Old) == 0 && !m.Has &&
		m.Of == 0 && m.Status == 0 && m.Host == 0 && m.Grant == 0 && m.Bounds == 0 &&
		m.Limit == 0 && len(m.Pairs) == 0 && len(m.Sessions) == 0
}

// unfit tells whether a payload may not be.
func unfit(payload []byte) bool { return len(payload) < 1 || len(payload) > api.MaxPayload }
