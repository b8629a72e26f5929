package audit_test

import (
	"fmt"
	"math"
	"testing"

	"shard/api"
	"shard/audit"
)

// may holds a picture's being allowed against what is wanted, and against the chapter.
func may(t *testing.T, what string, p api.Picture, want bool) {
	t.Helper()
	if docMayBe(p) != want {
		t.Fatalf("%s: the chapter says %v", what, !want)
	}
	if got := audit.CheckPicture(p) == api.OK; got != want {
		t.Fatalf("%s: %v, want %v", what, got, want)
	}
	if !want {
		isRefused(t, p)
	}
}

// spoilt gives the picture of example 2, changed.
func spoilt(t *testing.T, f func(*api.Picture)) api.Picture {
	t.Helper()
	p := handed(t)
	f(&p)
	return p
}

func TestP16_1Fine(t *testing.T) {
	for hosts := 1; hosts <= 16; hosts++ {
		may(t, fmt.Sprint(hosts, " hosts"), started(hosts), true)
	}
	may(t, "example 2", handed(t), true)
	may(t, "example 3", installed(t), true)
}

func TestP16_1Config(t *testing.T) {
	may(t, "nothing at all", api.Picture{}, false)
	for what, f := range map[string]func(*api.Config){
		"Hosts 0":      func(c *api.Config) { c.Hosts = 0 },
		"Hosts 17":     func(c *api.Config) { c.Hosts = 17 },
		"Hosts -1":     func(c *api.Config) { c.Hosts = -1 },
		"Clients -1":   func(c *api.Config) { c.Clients = -1 },
		"Clients 17":   func(c *api.Config) { c.Clients = 17 },
		"Pairs -1":     func(c *api.Config) { c.Pairs = -1 },
		"Pairs 1025":   func(c *api.Config) { c.Pairs = 1025 },
		"Bounds -1":    func(c *api.Config) { c.Bounds = -1 },
		"Bounds 257":   func(c *api.Config) { c.Bounds = 257 },
		"Queue 0":      func(c *api.Config) { c.Queue = 0 },
		"Queue 17":     func(c *api.Config) { c.Queue = 17 },
		"Window 0":     func(c *api.Config) { c.Window = 0 },
		"Window 3":     func(c *api.Config) { c.Window = 3 },
		"Group 0":      func(c *api.Config) { c.Group = 0 },
		"Keep 1025":    func(c *api.Config) { c.Keep = 1025 },
		"MTU 63":       func(c *api.Config) { c.MTU = 63 },
		"Net 0":        func(c *api.Config) { c.Net = 0 },
		"Patience 65":  func(c *api.Config) { c.Patience = 65 },
		"Tries 0":      func(c *api.Config) { c.Tries = 0 },
		"farthest MTU": func(c *api.Config) { c.MTU = math.MinInt },
	} {
		may(t, what, spoilt(t, func(p *api.Picture) { f(&p.Config) }), false)
	}
	may(t, "the greatest", spoilt(t, func(p *api.Picture) {
		p.Config = api.Config{Hosts: 2, Clients: 16, Pairs: 1024, Bounds: 256, Queue: 16, Window: 16, Group: 64, Keep: 1024, MTU: 1024, Net: 4096, Patience: 64, Tries: 64}
	}), true)
	may(t, "a configuration of no hosts and none", api.Picture{Config: configOf(0)}, false)
	may(t, "17 hosts", started(17), false)
}

func TestP16_1Hosts(t *testing.T) {
	for what, f := range map[string]func(*api.Picture){
		"one host fewer":     func(p *api.Picture) { p.Hosts = p.Hosts[:1] },
		"no host":            func(p *api.Picture) { p.Hosts = nil },
		"one host more":      func(p *api.Picture) { p.Hosts = append(p.Hosts, p.Hosts[0]) },
		"hosts in disorder":  func(p *api.Picture) { p.Hosts[0], p.Hosts[1] = p.Hosts[1], p.Hosts[0] },
		"one host twice":     func(p *api.Picture) { p.Hosts[1] = p.Hosts[0] },
		"Self beyond all":    func(p *api.Picture) { p.Hosts[1].Self = 2 },
		"Self that is none":  func(p *api.Picture) { p.Hosts[1].Self = 255 },
		"a host's zero":      func(p *api.Picture) { p.Hosts[1] = api.HostState{Self: 1} },
		"one more, in order": func(p *api.Picture) { p.Hosts = append(p.Hosts, started(3).Hosts[2]) },
	} {
		may(t, what, spoilt(t, f), false)
	}
}

func TestP16_1Table(t *testing.T) {
	for _, c := range []struct {
		what  string
		table []api.Segment
		want  bool
	}{
		{"one segment", []api.Segment{seg(0, top, 1)}, true},
		{"of single keys", []api.Segment{seg(0, 0, 1), seg(1, top-1, 0), seg(top, top, 1)}, true},
		{"none", nil, false},
		{"empty", []api.Segment{}, false},
		{"the lowest key left out", []api.Segment{seg(1, top, 0)}, false},
		{"the highest key left out", []api.Segment{seg(0, top-1, 0)}, false},
		{"a key left out", []api.Segment{seg(0, 4, 1), seg(6, top, 0)}, false},
		{"a key twice", []api.Segment{seg(0, 5, 1), seg(5, top, 0)}, false},
		{"behind the highest key", []api.Segment{seg(0, top, 1), seg(0, 5, 0)}, false},
		{"falling", []api.Segment{seg(6, top, 1), seg(0, 5, 0)}, false},
		{"turned round", []api.Segment{seg(0, 5, 1), seg(6, 5, 0), seg(6, top, 1)}, false},
		{"neighbours of one host", []api.Segment{seg(0, 5, 1), seg(6, top, 1)}, false},
		{"neighbours of one host in the middle", []api.Segment{seg(0, 5, 1), seg(6, 7, 0), seg(8, 9, 0), seg(10, top, 1)}, false},
		{"a host beyond all", []api.Segment{seg(0, 5, 2), seg(6, top, 1)}, false},
		{"a host that is none", []api.Segment{seg(0, 5, 1), seg(6, top, 16)}, false},
		{"no one", []api.Segment{seg(0, top, 255)}, false},
	} {
		for h := range 2 {
			may(t, c.what, spoilt(t, func(p *api.Picture) { p.Hosts[h].Table = c.table }), c.want)
		}
	}
	may(t, "8192 segments", spoilt(t, func(p *api.Picture) { p.Hosts[1].Table = combed(8192) }), true)
	may(t, "8193 segments", spoilt(t, func(p *api.Picture) { p.Hosts[1].Table = combed(8193) }), false)
}

// combed gives so many segments of one key each, the last one but for it, of the hosts 0 and 1 by turns.
func combed(n int) []api.Segment {
	var out []api.Segment
	for i := range n {
		out = append(out, seg(uint64(i), uint64(i), api.Addr(i%2)))
	}
	out[n-1].Hi = top
	return out
}

func TestP16_1Pairs(t *testing.T) {
	many := func(n int) []api.Pair {
		out := make([]api.Pair, n)
		for i := range out {
			out[i].Key = uint64(i) * 3
		}
		return out
	}
	long := string(make([]byte, 65))
	for _, c := range []struct {
		what  string
		pairs []api.Pair
		want  bool
	}{
		{"none", []api.Pair{}, true},
		{"rising, strays too", []api.Pair{pair(0, ""), pair(1, "a"), pair(top, "b")}, true},
		{"one twice", []api.Pair{pair(5, "a"), pair(5, "a")}, false},
		{"falling", []api.Pair{pair(6, "a"), pair(5, "a")}, false},
		{"falling at the end", []api.Pair{pair(0, ""), pair(top, ""), pair(7, "")}, false},
		{"64 bytes", []api.Pair{pair(5, long[1:])}, true},
		{"65 bytes", []api.Pair{pair(5, long)}, false},
		{"65 bytes at the end", []api.Pair{pair(5, ""), pair(6, long)}, false},
		{"32768", many(32768), true},
		{"32769", many(32769), false},
	} {
		for h := range 2 {
			may(t, c.what, spoilt(t, func(p *api.Picture) { p.Hosts[h].Pairs = c.pairs }), c.want)
		}
	}
}

func TestP16_1Credits(t *testing.T) {
	for _, credits := range []int{0, 1, -1, 1 << 30, 1<<31 - 1, 1 << 31, 1<<31 + 1, -1 << 31, -1<<31 - 1, 1<<32 + 1, -1 << 32, math.MaxInt, math.MinInt} {
		want := credits >= -1<<31 && credits <= 1<<31
		for h := range 2 {
			may(t, fmt.Sprint("Free ", credits), spoilt(t, func(p *api.Picture) { p.Hosts[h].Free = credits }), want)
			may(t, fmt.Sprint("Spare ", credits), spoilt(t, func(p *api.Picture) { p.Hosts[h].Spare = credits }), want)
		}
	}
}

func TestP16_1End(t *testing.T) {
	bytesOf := func(lengths ...int) [][]byte {
		var out [][]byte
		for _, n := range lengths {
			out = append(out, make([]byte, n))
		}
		return out
	}
	early := func(seqs ...uint64) []api.Frame {
		var out []api.Frame
		for _, seq := range seqs {
			out = append(out, api.Frame{Seq: seq, Payload: []byte("x")})
		}
		return out
	}
	for _, c := range []struct {
		what string
		peer api.PeerState
		want bool
	}{
		{"a full queue", api.PeerState{Sent: 2, Queue: bytesOf(1, 3072), Mask: 1}, true},
		{"the last numbers", api.PeerState{Sent: top, Acked: top - 2, Queue: bytesOf(1, 1), Mask: 1, Delivered: top - 2, Early: early(top)}, true},
		{"all numbers gone", api.PeerState{Sent: top, Acked: top, Delivered: top}, true},
		{"too long a queue", api.PeerState{Sent: 3, Queue: bytesOf(1, 1, 1)}, false},
		{"Acked above Sent", api.PeerState{Sent: 1, Acked: 2}, false},
		{"a payload too few", api.PeerState{Sent: 2, Queue: bytesOf(1)}, false},
		{"a payload too many", api.PeerState{Sent: 1, Queue: bytesOf(1, 1)}, false},
		{"numbers that come round", api.PeerState{Sent: 0, Acked: top, Queue: bytesOf(1)}, false},
		{"an empty payload", api.PeerState{Sent: 2, Queue: bytesOf(1, 0)}, false},
		{"too long a payload", api.PeerState{Sent: 1, Queue: bytesOf(3073)}, false},
		{"a mask of what was not sent", api.PeerState{Sent: 2, Queue: bytesOf(1, 1), Mask: 2}, false},
		{"a mask of one", api.PeerState{Sent: 1, Queue: bytesOf(1), Mask: 1}, false},
		{"early", api.PeerState{Delivered: 7, Early: early(9)}, true},
		{"early, but due", api.PeerState{Delivered: 7, Early: early(8)}, false},
		{"early, but gone", api.PeerState{Delivered: 7, Early: early(7)}, false},
		{"early, beyond the window", api.PeerState{Delivered: 7, Early: early(10)}, false},
		{"early twice", api.PeerState{Delivered: 7, Early: early(9, 9)}, false},
		{"early, coming round", api.PeerState{Delivered: top - 1, Early: early(0)}, false},
		{"early and empty", api.PeerState{Delivered: 7, Early: []api.Frame{{Seq: 9}}}, false},
	} {
		for h := range 2 {
			may(t, c.what, spoilt(t, func(p *api.Picture) { p.Hosts[h].End.Peers[1-h] = c.peer }), c.want)
			may(t, "its own: "+c.what, spoilt(t, func(p *api.Picture) { p.Hosts[h].End.Peers[h] = c.peer }), false)
		}
	}
	for what, f := range map[string]func(*api.EndState){
		"no peer":       func(e *api.EndState) { e.Peers = nil },
		"a peer fewer":  func(e *api.EndState) { e.Peers = e.Peers[:1] },
		"a peer more":   func(e *api.EndState) { e.Peers = append(e.Peers, api.PeerState{}) },
		"its own Sent":  func(e *api.EndState) { e.Peers[1].Sent = 1 },
		"its own Acked": func(e *api.EndState) { e.Peers[1].Sent, e.Peers[1].Acked = 1, 1 },
		"its own Early": func(e *api.EndState) { e.Peers[1].Early = early(2) },
	} {
		may(t, what, spoilt(t, func(p *api.Picture) { f(&p.Hosts[1].End) }), false)
	}
}

// The configuration's queue and window count, not the greatest ones.
func TestP16_1EndByConfig(t *testing.T) {
	for queue := 1; queue <= 16; queue++ {
		for window := 1; window <= queue; window++ {
			p := started(2)
			p.Config.Queue, p.Config.Window = queue, window
			payloads := make([][]byte, queue+1)
			for i := range payloads {
				payloads[i] = []byte("x")
			}
			queued(&p, 0, 1, 5, payloads[1:]...)
			if window > 1 {
				p.Hosts[1].End.Peers[0].Early = []api.Frame{{Seq: uint64(window), Payload: []byte("x")}}
			}
			may(t, fmt.Sprint(queue, window), p, true)
			p.Hosts[1].End.Peers[0].Early = []api.Frame{{Seq: uint64(window) + 1, Payload: []byte("x")}}
			may(t, fmt.Sprint(queue, window, " early"), p, false)
			p.Hosts[1].End.Peers[0].Early = nil
			queued(&p, 0, 1, 5, payloads...)
			may(t, fmt.Sprint(queue, window, " long"), p, false)
		}
	}
}

// What is not asked: strays, credits below 0, payloads that are no delegations, sessions.
func TestP16_1NotAsked(t *testing.T) {
	may(t, "strays", spoilt(t, func(p *api.Picture) { p.Hosts[1].Pairs = []api.Pair{pair(9, "")} }), true)
	may(t, "below 0", spoilt(t, func(p *api.Picture) { p.Hosts[1].Free, p.Hosts[0].Spare = -1, -1 }), true)
	may(t, "payloads", spoilt(t, func(p *api.Picture) {
		queued(p, 1, 0, 0, []byte("x"))
		p.Hosts[1].End.Peers[0].Early = []api.Frame{{Seq: 2, Payload: []byte("y")}}
	}), true)
	may(t, "sessions", spoilt(t, func(p *api.Picture) {
		p.Hosts[1].Sessions = []api.Session{{Client: 99}, {Client: 3, Seq: 0, Status: 77}, {Client: 3}}
	}), true)
}

// Which host is at fault does not count.
func TestP16_1EveryHost(t *testing.T) {
	for h := range 16 {
		for i, f := range []func(*api.HostState){
			func(s *api.HostState) { s.Self++ },
			func(s *api.HostState) { s.Table = nil },
			func(s *api.HostState) { s.Table = []api.Segment{seg(0, 4, 15), seg(5, top, 16)} },
			func(s *api.HostState) { s.Pairs = []api.Pair{pair(1, ""), pair(1, "")} },
			func(s *api.HostState) { s.Free = 1<<31 + 1 },
			func(s *api.HostState) { s.Spare = -1<<31 - 1 },
			func(s *api.HostState) { s.End.Peers[(h+1)%16].Sent = 1 },
		} {
			p := started(16)
			f(&p.Hosts[h])
			may(t, fmt.Sprint("host ", h, ", fault ", i), p, false)
		}
	}
}
