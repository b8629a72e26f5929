package xonce_test

import (
	"fmt"
	"math/rand"
	"slices"
	"strings"
	"testing"

	"shard/api"
	"shard/xonce"
)

// mail is a message on the way.
type mail struct {
	from, to api.Addr
	m        api.Message
}

// crowd is some hosts' ends, all that was taken and handed up for each pair of them (from, to), and what is on the way.
type crowd struct {
	t             *testing.T
	queue, window int
	ends          []*xonce.End
	taken, handed [16][16][]string
	way           []mail
}

func newCrowd(t *testing.T, hosts, queue, window int) *crowd {
	t.Helper()
	c := &crowd{t: t, queue: queue, window: window}
	for h := range hosts {
		c.ends = append(c.ends, newEnd(t, api.Addr(h), hosts, queue, window))
	}
	return c
}

// clone loads ends with the states of these.
func (c *crowd) clone() *crowd {
	c.t.Helper()
	like := *c
	like.ends = make([]*xonce.End, len(c.ends))
	for h := range c.ends {
		like.ends[h] = c.ends[h]
		like.reload(h)
	}
	like.way = slices.Clone(c.way)
	for a := range c.taken {
		for b := range c.taken[a] {
			like.taken[a][b] = slices.Clip(c.taken[a][b])
			like.handed[a][b] = slices.Clip(c.handed[a][b])
		}
	}
	return &like
}

// reload puts an end in another's place, loaded with that one's state.
func (c *crowd) reload(h int) {
	c.t.Helper()
	c.ends[h] = loadEnd(c.t, api.Addr(h), len(c.ends), c.queue, c.window, c.ends[h].State())
}

func (c *crowd) post(from api.Addr, list []api.Out) {
	for _, o := range list {
		c.way = append(c.way, mail{from, o.To, o.M})
	}
}

func (c *crowd) send(from, to api.Addr, payload string) api.Errno {
	list, x := c.ends[from].Send(to, []byte(payload))
	if x == api.OK {
		c.taken[from][to] = append(c.taken[from][to], payload)
		c.post(from, list)
	}
	return x
}

// deliver lets a mail come, and holds what is handed up to P8.9.
func (c *crowd) deliver(l mail) {
	c.t.Helper()
	taken, x := c.ends[l.to].Take(l.from, l.m)
	if x != api.OK {
		c.t.Fatalf("%d takes %v of %d: %d", l.to, l.m, l.from, x)
	}
	c.post(l.to, taken.Mails)
	handed := &c.handed[l.from][l.to]
	for _, u := range taken.Ups {
		*handed = append(*handed, string(u.Body))
		if u.From != l.from || u.Seq != uint64(len(*handed)) {
			c.t.Fatalf("%d hands up %v of %d as number %d", l.to, u, l.from, len(*handed))
		}
	}
	all := c.taken[l.from][l.to]
	if n := len(*handed); n > len(all) || !slices.Equal(*handed, all[:n]) {
		c.t.Fatalf("%d handed up %q of %d, who took %q", l.to, *handed, l.from, all)
	}
}

// settle lets every end tick once, delivers all that is on the way and all that comes of it, each time the one that pick chooses of so many, and holds P8.10.
func (c *crowd) settle(pick func(n int) int) {
	c.t.Helper()
	for h, e := range c.ends {
		c.post(api.Addr(h), e.Tick())
	}
	for len(c.way) > 0 {
		i := pick(len(c.way))
		l := c.way[i]
		c.way = slices.Delete(c.way, i, i+1)
		c.deliver(l)
	}
	for a, e := range c.ends {
		if !e.Calm() {
			c.t.Fatalf("%d is not calm: %+v", a, e.State())
		}
		for b := range c.ends {
			if !slices.Equal(c.taken[a][b], c.handed[a][b]) {
				c.t.Fatalf("%d took %q for %d, where %q were handed up", a, c.taken[a][b], b, c.handed[a][b])
			}
		}
	}
}

func first(int) int  { return 0 }
func last(n int) int { return n - 1 }

// settles holds P8.10 from here on, with all that is on the way lost and with all of it coming, in some orders.
func (c *crowd) settles(rnd *rand.Rand) {
	c.t.Helper()
	for _, pick := range []func(int) int{first, last, rnd.Intn} {
		lost := c.clone()
		lost.way = nil
		lost.settle(pick)
		c.clone().settle(pick)
	}
}

// key tells all that is to come of a crowd.
func (c *crowd) key() string {
	var b strings.Builder
	for _, e := range c.ends {
		fmt.Fprintf(&b, "%v;", e.State())
	}
	for _, l := range c.way {
		fmt.Fprintf(&b, "%d>%d %d %d %d %q;", l.from, l.to, l.m.Kind, l.m.Seq, l.m.Mask, l.m.Payload)
	}
	return b.String()
}

// unite makes the way a set: what lies there may come at any time, as often as it likes, or never.
func (c *crowd) unite() {
	shownOf := func(l mail) string { return shown(l) }
	slices.SortFunc(c.way, func(a, b mail) int { return strings.Compare(shownOf(a), shownOf(b)) })
	c.way = slices.CompactFunc(c.way, func(a, b mail) bool { return shownOf(a) == shownOf(b) })
}

// All that two hosts can come to, one of which sends some payloads, whatever the network does: at each place P8.9 and P8.10 are held.
func TestP8_9AllWaysOfAPair(t *testing.T) {
	rnd := rand.New(rand.NewSource(89))
	for _, c := range []struct{ queue, window, payloads, least int }{{1, 1, 3, 10}, {2, 1, 4, 15}, {2, 2, 4, 50}, {3, 2, 4, 60}, {3, 3, 4, 140}, {4, 3, 5, 370}, {4, 4, 5, 800}} {
		if seen := explore(t, rnd, newCrowd(t, 2, c.queue, c.window), c.payloads); seen < c.least {
			t.Errorf("%+v: only %d places were seen", c, seen)
		}
	}
}

// explore goes from place to place until all are seen; how many.
func explore(t *testing.T, rnd *rand.Rand, start *crowd, payloads int) int {
	t.Helper()
	seen := map[string]bool{}
	work := []*crowd{start}
	visit := func(c *crowd) {
		c.unite()
		if key := c.key(); !seen[key] {
			seen[key] = true
			work = append(work, c)
		}
	}
	for len(work) > 0 {
		c := work[len(work)-1]
		work = work[:len(work)-1]
		c.settles(rnd)
		if n := len(c.taken[0][1]); n < payloads {
			next := c.clone()
			next.send(0, 1, string(rune('a'+n)))
			visit(next)
		}
		for _, l := range c.way {
			next := c.clone()
			next.deliver(l)
			visit(next)
		}
		next := c.clone()
		next.post(0, next.ends[0].Tick())
		visit(next)
	}
	return len(seen)
}

// Many hosts that all send to one another over a network that loses, doubles and mixes, and whose ends are now and then loaded anew.
func TestP8_9And8_10RandomNetworks(t *testing.T) {
	rnd := rand.New(rand.NewSource(810))
	for _, c := range []struct{ hosts, queue, window int }{{2, 1, 1}, {2, 4, 2}, {2, 16, 16}, {3, 5, 3}, {4, 16, 5}, {16, 2, 2}} {
		for loss := range 4 {
			playNetwork(t, rnd, newCrowd(t, c.hosts, c.queue, c.window), loss)
		}
	}
}

// playNetwork plays random steps; the greater loss is, the more is lost.
func playNetwork(t *testing.T, rnd *rand.Rand, c *crowd, loss int) {
	t.Helper()
	host := func() int { return rnd.Intn(len(c.ends)) }
	full := 0
	for step := range 3000 {
		switch a, b := host(), host(); rnd.Intn(10) {
		case 0, 1, 2:
			if a == b {
				continue
			}
			if x := c.send(api.Addr(a), api.Addr(b), fmt.Sprint(a, b, step)); x == api.ErrXonceFull {
				full++
			} else if x != api.OK {
				t.Fatal(x)
			}
		case 3:
			c.post(api.Addr(a), c.ends[a].Tick())
		case 4:
			c.reload(a)
		default:
			if len(c.way) == 0 {
				continue
			}
			i := rnd.Intn(len(c.way))
			l := c.way[i]
			if rnd.Intn(4) > 0 || len(c.way) > 200 {
				c.way = slices.Delete(c.way, i, i+1)
			}
			if rnd.Intn(5) >= loss {
				c.deliver(l)
			}
		}
		if step%500 == 499 {
			c.settles(rnd)
		}
	}
	if full == 0 {
		t.Errorf("no queue was ever full")
	}
}

// Numbers that run out in the middle of the way.
func TestP8_9UpToTheLastNumber(t *testing.T) {
	p := api.PeerState{Sent: top - 6, Acked: top - 6, Delivered: top - 6}
	a := loadEnd(t, 0, 2, 4, 3, api.EndState{Peers: []api.PeerState{{}, p}})
	b := loadEnd(t, 1, 2, 4, 3, api.EndState{Peers: []api.PeerState{p, {}}})
	taken, handed := "", ""
	for round := range 10 {
		for a.Room(1) > 0 {
			payload := string(rune('a' + len(taken)))
			if _, x := a.Send(1, []byte(payload)); x != api.OK {
				t.Fatal(x)
			}
			taken += payload
		}
		way := a.Tick()
		slices.Reverse(way)
		for i, o := range way {
			got, x := b.Take(0, o.M)
			if x != api.OK {
				t.Fatal(x)
			}
			for _, u := range got.Ups {
				handed += string(u.Body)
			}
			if (round+i)%3 > 0 { // some acknowledgements are lost
				if _, x := a.Take(1, got.Mails[0].M); x != api.OK {
					t.Fatal(x)
				}
			}
		}
	}
	if taken != "abcdef" || handed != taken || !a.Calm() {
		t.Errorf("%q were taken, %q handed up", taken, handed)
	}
	_, x := a.Send(1, []byte("g"))
	isErr(t, x, api.ErrXonceSpent)
}
