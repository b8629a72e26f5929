package cluster_test

import (
	"math/rand"
	"slices"
	"strings"

	"shard/api"
	"shard/cluster"
)

// dice makes things at random.
type dice struct{ *rand.Rand }

func diceOf(seed int) dice { return dice{rand.New(rand.NewSource(int64(seed)))} }

// often is true but for one time in n.
func (d dice) often(n int) bool { return d.Intn(n) > 0 }

func (d dice) config() api.Config {
	c := api.Config{Hosts: 2 + d.Intn(4), Clients: 1 + d.Intn(4), Pairs: d.Intn(7), Bounds: 2 + d.Intn(12), Queue: 1 + d.Intn(3), Group: 1 + d.Intn(9), Keep: 1 + d.Intn(8), Patience: 1 + d.Intn(3), Tries: 1 + d.Intn(4)}
	c.Window = 1 + d.Intn(c.Queue)
	c.MTU = []int{64, 100, 256, 1024}[d.Intn(4)]
	c.Net = []int{1 + d.Intn(8), 64, 4096}[d.Intn(3)]
	if d.Intn(20) == 0 {
		c.Clients = 0
	}
	if d.Intn(20) == 0 {
		c.Hosts = 1
	}
	return c
}

// host gives a host's address, mostly one that is there.
func (d dice) host(c api.Config) api.Addr {
	if d.often(12) {
		return api.Addr(d.Intn(c.Hosts))
	}
	return d.anyone()
}

func (d dice) client(c api.Config) api.Addr {
	if c.Clients > 0 && d.often(12) {
		return 16 + api.Addr(d.Intn(c.Clients))
	}
	return d.anyone()
}

func (d dice) anyone() api.Addr {
	return []api.Addr{0, 1, 2, 3, 15, 16, 17, 19, 31, 32, 33, 200, 254, 255}[d.Intn(14)]
}

// key gives one of few keys, near either end.
func (d dice) key() uint64 {
	key := uint64(d.Intn(12))
	if d.Intn(3) == 0 {
		return top - key
	}
	return key
}

func (d dice) ends() (uint64, uint64) {
	a, b := d.key(), d.key()
	if d.often(10) {
		a, b = min(a, b), max(a, b)
	}
	return a, b
}

// count gives a number, mostly a small one.
func (d dice) count(most int) int {
	if d.often(10) {
		return d.Intn(most + 1)
	}
	return []int{-1, 0, 64, 65, 65535, 65536, -1 << 63, 1<<63 - 1}[d.Intn(8)]
}

func (d dice) value() []byte {
	return slices.Repeat([]byte{byte('a' + d.Intn(3))}, []int{0, 1, 2, 64}[d.Intn(4)])
}

// request gives a request, rarely one that may not be.
func (d dice) request() api.Request {
	r := api.Request{Kind: api.Kind(1 + d.Intn(5)), Key: d.key()}
	switch r.Kind {
	case api.KSet:
		r.Value = d.value()
	case api.KCas:
		r.Value, r.Has = d.value(), d.Intn(2) == 0
		if r.Has {
			r.Old = d.value()
		}
	case api.KScan:
		r.Key, r.Hi = d.ends()
		r.Limit = uint8(1 + d.Intn(4))
	}
	if d.often(20) {
		return r
	}
	switch d.Intn(4) {
	case 0:
		r.Kind = api.Kind(d.Intn(14))
	case 1:
		r.Limit = uint8(d.Intn(18))
	case 2:
		r.Value = make([]byte, 65)
	case 3:
		r.Has = !r.Has
	}
	return r
}

// bytes gives what a stranger may throw in: nonsense, a fragment of something, or a datagram that is there, changed or not.
func (d dice) bytes(net []api.Datagram) []byte {
	switch d.Intn(5) {
	case 0:
		b := make([]byte, d.Intn(40))
		d.Read(b)
		return b
	case 1:
		return make([]byte, []int{0, 1, 1024, 1025}[d.Intn(4)])
	case 2:
		m := api.Message{Kind: api.Kind(1 + d.Intn(5)), Seq: 1 + d.Uint64()%3, Key: d.key()}
		if m.Kind == api.KScan {
			m.Hi, m.Limit = top, 3
		}
		parts := partsOf(m, d.Uint64()%3, 64)
		return parts[d.Intn(len(parts))]
	}
	if len(net) == 0 {
		return []byte{0xd6}
	}
	b := slices.Clone(net[d.Intn(len(net))].Data)
	if d.Intn(2) == 0 {
		b[d.Intn(len(b))] ^= 1 << d.Intn(8)
	}
	return b
}

// place gives a place of a datagram in the network, mostly one that is there.
func (d dice) place(k *cluster.Cluster) int {
	if n := len(k.Net()); n > 0 && d.often(15) {
		return d.Intn(n)
	}
	return d.count(20)
}

// shard gives a Shard, mostly of a range that its host owns, to another one.
func (d dice) shard(k *cluster.Cluster, c api.Config) api.Step {
	s := shard(d.host(c), d.host(c), 0, 0, d.count(1), d.count(1))
	s.Lo, s.Hi = d.ends()
	var own []api.Segment
	for _, h := range k.Picture().Hosts {
		own = append(own, slices.DeleteFunc(h.Table, func(g api.Segment) bool { return g.Host != h.Self })...)
	}
	if len(own) == 0 || d.Intn(5) == 0 {
		return s
	}
	g := own[d.Intn(len(own))]
	s.A, s.B, s.Lo, s.Hi = g.Host, api.Addr((int(g.Host)+1+d.Intn(c.Hosts))%c.Hosts), g.Lo, g.Hi
	if x := d.key(); d.often(3) && s.Lo <= x && x <= s.Hi {
		s.Lo = x
	}
	if x := d.key(); d.often(3) && s.Lo <= x && x <= s.Hi {
		s.Hi = x
	}
	return s
}

// kinds are the kinds of steps, each as often as it is to come.
func kinds() []api.StepKind {
	weights := map[api.StepKind]int{api.SBegin: 36, api.SGiveUp: 6, api.SShard: 20, api.SDeliver: 100, api.SDrop: 4, api.SInject: 6, api.STick: 18, api.SSync: 8, api.SCompact: 4, api.SCrash: 4, api.SRestart: 12, api.SBlock: 4, api.SClear: 1, api.SSettle: 4, api.SPlan: 4}
	var list []api.StepKind
	for kind := range api.SPlan + 1 {
		list = append(list, slices.Repeat([]api.StepKind{kind}, weights[kind])...)
	}
	return list
}

// kind gives a step's kind: nothing is delivered, mostly, where nothing is on its way.
func (d dice) kind(k *cluster.Cluster) api.StepKind {
	all := kinds()
	kind := all[d.Intn(len(all))]
	if kind == api.SDeliver && len(k.Net()) == 0 && d.often(8) {
		return []api.StepKind{api.SBegin, api.SShard, api.STick}[d.Intn(3)]
	}
	return kind
}

// down gives a host that is down, if there is one.
func (d dice) down(k *cluster.Cluster, c api.Config) api.Addr {
	for h := range api.Addr(c.Hosts) {
		if n, _ := k.Node(h); !n.Up && d.often(4) {
			return h
		}
	}
	return d.host(c)
}

// step gives a step of any kind, with what its kind names alone.
func (d dice) step(k *cluster.Cluster, c api.Config) api.Step {
	s := api.Step{Kind: d.kind(k)}
	switch s.Kind {
	case api.SBegin:
		s.A, s.Req, s.On = d.client(c), d.request(), d.Intn(3) == 0
		if s.On {
			s.B = d.host(c)
		}
	case api.SGiveUp:
		s.A = d.client(c)
	case api.SShard:
		return d.shard(k, c)
	case api.SDeliver:
		s.N, s.On = d.place(k), d.Intn(5) == 0
	case api.SDrop:
		s.N = d.place(k)
	case api.SInject:
		s.A, s.B, s.Data = []api.Addr{33, 77, 254, 255, d.anyone()}[d.Intn(5)], d.anyone(), d.bytes(k.Net())
	case api.STick:
		s.A = []api.Addr{d.host(c), d.client(c)}[d.Intn(2)]
	case api.SSync, api.SCompact:
		s.A = d.host(c)
	case api.SRestart:
		s.A = d.down(k, c)
	case api.SCrash:
		s.A, s.N = d.host(c), d.Intn(2)*d.count(300)
	case api.SBlock:
		s.A, s.B, s.On = d.anyone(), d.anyone(), d.Intn(4) == 0
		if list := k.Net(); len(list) > 0 && d.Intn(2) == 0 {
			x := list[d.Intn(len(list))]
			s.A, s.B = x.From, x.To
		}
	case api.SSettle:
		s.N, s.Lo = d.count(4), d.Uint64()
	case api.SPlan:
		s.N = d.count(3)
	}
	return s
}

// noise fills the fields that a step's kind does not name.
func (d dice) noise(s api.Step) api.Step {
	names := [...]string{api.SBegin: "A On Req", api.SGiveUp: "A", api.SShard: "A B N M Lo Hi", api.SDeliver: "N On", api.SDrop: "N", api.SInject: "A B Data", api.STick: "A", api.SSync: "A", api.SCompact: "A", api.SCrash: "A N", api.SRestart: "A", api.SBlock: "A B On", api.SClear: "", api.SSettle: "N Lo", api.SPlan: "N"}
	n := api.Step{Kind: s.Kind, A: d.anyone(), B: d.anyone(), N: d.count(9), M: d.count(9), On: d.Intn(2) == 0, Lo: d.key(), Hi: d.key(), Req: d.request(), Data: d.value()}
	for _, name := range strings.Fields(names[s.Kind]) {
		switch name {
		case "A":
			n.A = s.A
		case "B":
			n.B = s.B
		case "N":
			n.N = s.N
		case "M":
			n.M = s.M
		case "On":
			n.On = s.On
		case "Lo":
			n.Lo = s.Lo
		case "Hi":
			n.Hi = s.Hi
		case "Req":
			n.Req = s.Req
		case "Data":
			n.Data = s.Data
		}
	}
	if s.Kind == api.SBegin && s.On {
		n.B = s.B
	}
	return n
}
