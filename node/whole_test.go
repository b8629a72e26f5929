package node_test

import (
	"math/rand"
	"testing"

	"shard/api"
)

// anyMessage gives a message that mostly may be, from somebody who mostly may send it.
func anyMessage(r *rand.Rand, c api.Config, s api.HostState) (api.Addr, api.Message) {
	from := 16 + api.Addr(r.Intn(c.Clients+1))
	seq := uint64(1 + r.Intn(3))
	for _, x := range s.Sessions {
		if x.Client == from {
			seq = max(1, x.Seq+uint64(r.Intn(4))-1)
		}
	}
	key, hi := uint64(r.Intn(40)), uint64(r.Intn(40))
	lo := min(key, hi)
	hi = max(key, hi)
	value := []string{"", "a", "b", long(64)}[r.Intn(4)]
	peer := api.Addr(r.Intn(c.Hosts + 1))
	var p api.PeerState
	if int(peer) < c.Hosts {
		p = s.End.Peers[peer]
	}
	switch r.Intn(10) {
	case 0:
		return from, get(seq, key)
	case 1, 2:
		return from, set(seq, key, value)
	case 3:
		return from, del(seq, key)
	case 4:
		return from, api.Message{Kind: api.KCas, Seq: seq, Key: key, Has: true, Old: []byte("a"), Value: []byte(value)}
	case 5:
		return from, scan(seq, lo, hi, uint8(1+r.Intn(16)))
	case 6:
		return api.Admin, shard(lo, hi, api.Addr(r.Intn(c.Hosts+1)), uint32(r.Intn(3)), uint32(r.Intn(2)))
	case 7:
		return peer, data(p.Delivered+uint64(1+r.Intn(3)), delegation(lo, hi, pair(lo, value)))
	case 8:
		return peer, ack(p.Acked+uint64(r.Intn(3)), uint64(r.Intn(2)))
	}
	return api.Addr(r.Intn(40)), []api.Message{get(1, 1), reply(get(1, 1), api.StOK, "v"), shard(1, 2, 1, 0, 0), ack(0, 0)}[r.Intn(4)]
}

// anyBytes gives what a stranger throws in.
func anyBytes(r *rand.Rand, seen [][]byte) []byte {
	if len(seen) == 0 || r.Intn(3) == 0 {
		b := make([]byte, r.Intn(80))
		r.Read(b)
		return b
	}
	b := append([]byte(nil), seen[r.Intn(len(seen))]...)
	if r.Intn(2) == 0 {
		b[r.Intn(len(b))] ^= 1 << r.Intn(8)
	}
	return b
}

// TestWhole: any calls, to a node and to the document's.
func TestWhole(t *testing.T) {
	crashes, takes := 0, 0
	for seed := range 60 {
		r := rand.New(rand.NewSource(int64(seed)))
		c := wide()
		c.Hosts, c.Clients, c.Pairs, c.Bounds = 2+r.Intn(3), 1+r.Intn(3), r.Intn(9), r.Intn(20)
		c.Queue = 1 + r.Intn(4)
		c.Window = 1 + r.Intn(c.Queue)
		c.Group, c.Keep = 1+r.Intn(5), 1+r.Intn(12)
		c.MTU = 64 + r.Intn(2)*r.Intn(400)
		w := newTwin(t, c, api.Addr(r.Intn(2)))
		var seen [][]byte
		for range 150 {
			switch r.Intn(16) {
			case 0:
				w.sync()
			case 1:
				w.compact()
			case 2:
				w.tick()
			case 3, 4:
				w.out()
			case 5:
				if crashes++; r.Intn(2) == 0 {
					w.crash(r.Intn(300) - 2)
				}
				if !w.d.down || r.Intn(4) > 0 {
					w.restart()
				}
			case 6:
				w.take(api.Addr(r.Intn(256)), anyBytes(r, seen))
			case 7:
				if w.d.down {
					w.n = openNode(t, c, w.d.self, w.n.Disk())
					w.d.restart()
					isTold(t, w.n, w.d)
				}
			default:
				from, m := anyMessage(r, c, w.d.core.State())
				parts := partsOf(m, 64+r.Intn(900))
				r.Shuffle(len(parts), func(i, j int) { parts[i], parts[j] = parts[j], parts[i] })
				for _, b := range parts {
					if r.Intn(20) > 0 {
						w.take(from, b)
						takes++
					}
				}
				seen = append(seen, parts...)
			}
		}
	}
	if crashes < 300 || takes < 3000 {
		t.Errorf("only %d crashes and %d datagrams", crashes, takes)
	}
}
