package cluster_test

import (
	"bytes"
	"maps"
	"slices"
	"testing"

	"shard/api"
	"shard/audit"
	"shard/cluster"
	"shard/history"
	"shard/linear"
	"shard/wire"
)

// ident is which request of whom.
type ident struct {
	who api.Addr
	seq uint64
}

// deed is a changing request that was executed.
type deed struct {
	ident
	status api.Status
}

// moment is a host's state behind a message that changed it.
type moment struct {
	state string
	did   []deed // at most one
}

// watch plays steps of a cluster and holds the whole to what DOC.md promises of it. Settles are played step by step.
type watch struct {
	t     *testing.T
	c     api.Config
	k     *cluster.Cluster
	now   api.Picture
	safe  api.Picture
	asks  map[ident]api.Request
	begun map[ident]int // the place in maps
	maps  []map[uint64]string
	past  [][]moment
	done  map[ident]api.Status
	taken map[api.Link][][]byte // the payloads that a host took for another one
	left  []letter
	cut   []api.Link // that were blocked at some time
	calls map[uint64]int
	seen  struct{ deeds, undone, ups, ends, strangers, lost int }
}

func newWatch(t *testing.T, c api.Config) *watch {
	t.Helper()
	k := newCluster(t, c)
	w := &watch{t: t, c: c, k: k, now: k.Picture(), safe: k.Durable(), asks: map[ident]api.Request{}, begun: map[ident]int{}, done: map[ident]api.Status{}, taken: map[api.Link][][]byte{}, calls: map[uint64]int{}}
	w.maps = append(w.maps, map[uint64]string{})
	for _, s := range w.now.Hosts {
		w.past = append(w.past, []moment{{state: shown(s)}})
	}
	return w
}

// waiting tells how many of a host's records a crash may take back.
func (w *watch) waiting(h api.Addr) int {
	n, _ := w.k.Node(h)
	return n.Journal.Waiting
}

// unionOf is M of a picture.
func (w *watch) unionOf(p api.Picture) map[uint64]string {
	w.t.Helper()
	pairs, e := audit.Union(p)
	m := map[uint64]string{}
	for _, x := range pairs {
		m[x.Key] = string(x.Value)
	}
	if e != api.OK || len(m) < len(pairs) {
		w.t.Fatalf("Union: %d, %v", e, pairs)
	}
	return m
}

func (w *watch) step(s api.Step) api.Answer {
	w.t.Helper()
	var d api.Datagram
	if list := w.k.Net(); s.Kind == api.SDeliver && s.N >= 0 && s.N < len(list) {
		d = list[s.N]
	}
	atRisk := 0
	switch s.Kind {
	case api.SCrash:
		atRisk = w.waiting(s.A)
	case api.SBlock:
		w.cut = append(w.cut, api.Link{From: s.A, To: s.B})
	}
	was := w.now
	a := w.k.Step(s)
	w.now, w.safe = w.k.Picture(), w.k.Durable()
	w.maps = append(w.maps, w.unionOf(w.now))
	if s.Kind == api.SCrash && a.Err == api.OK {
		w.goesBack(s.A, atRisk)
	} else {
		w.takesEffect(s, d, a, was)
	}
	w.goesTogether()
	w.handsUp(was, s)
	w.holdsOnDisk()
	w.letsGo(s, a)
	w.answers(a)
	if w.t.Failed() {
		w.t.Fatalf("at %s", brief(s))
	}
	return a
}

// goesBack (W6): a crash leaves a state that was there, not before the last one that was synced.
func (w *watch) goesBack(h api.Addr, atRisk int) {
	w.t.Helper()
	all := w.past[h]
	back := slices.IndexFunc(all, func(m moment) bool { return m.state == shown(w.now.Hosts[h]) })
	if back < len(all)-1-atRisk {
		w.t.Fatalf("W6: back to moment %d of %d, of which %d were not synced", back, len(all), atRisk)
	}
	for _, m := range all[back+1:] {
		w.seen.undone++
		for _, x := range m.did {
			delete(w.done, x.ident)
		}
	}
	w.past[h] = all[:back+1]
}

// takesEffect (W1, W5, W8): but for a request that a host executes, M stays; and no state changes but that of the host which takes a datagram.
func (w *watch) takesEffect(s api.Step, d api.Datagram, a api.Answer, was api.Picture) {
	w.t.Helper()
	want := w.maps[len(w.maps)-2]
	for h := range w.now.Hosts {
		state := shown(w.now.Hosts[h])
		if state == w.past[h][len(w.past[h])-1].state {
			continue
		}
		if s.Kind != api.SDeliver || int(d.To) != h || d.From >= api.FirstOutside {
			w.t.Fatalf("W1, W8: host %d changes at %s", h, brief(s))
		}
		next := moment{state: state}
		if d.From >= api.FirstClient && d.From < api.Admin {
			next.did, want = w.executes(d.From, was.Hosts[h], w.now.Hosts[h], want)
		}
		w.past[h] = append(w.past[h], next)
	}
	if !maps.Equal(w.maps[len(w.maps)-1], want) {
		w.t.Fatalf("W1: M becomes %v; want %v", w.maps[len(w.maps)-1], want)
	}
	if d.From >= api.FirstOutside {
		w.seen.strangers++
		if a.Sent > 0 {
			w.t.Fatalf("W8: a stranger makes somebody send")
		}
	}
}

func sessionOf(s api.HostState, who api.Addr) api.Session {
	for _, x := range s.Sessions {
		if x.Client == who {
			return x
		}
	}
	return api.Session{}
}

// executes: a client's datagram has changed a host, so that a request of its has been executed.
func (w *watch) executes(who api.Addr, was, is api.HostState, m map[uint64]string) ([]deed, map[uint64]string) {
	w.t.Helper()
	x := sessionOf(is, who)
	id := ident{who, x.Seq}
	r, asked := w.asks[id]
	_, twice := w.done[id]
	if !asked || twice || sessionOf(was, who).Seq >= x.Seq {
		w.t.Fatalf("W5: request %v was asked: %v, and done before: %v", id, asked, twice)
	}
	status, m := effect(r, m, was.Free)
	if x.Status != status {
		w.t.Fatalf("W1, W3: %+v has the status %d; want %d", r, x.Status, status)
	}
	w.done[id] = status
	w.seen.deeds++
	return []deed{{id, status}}, m
}

// effect tells what a changing request does to a map, at a host with so many free credits.
func effect(r api.Request, m map[uint64]string, free int) (api.Status, map[uint64]string) {
	value, there := m[r.Key]
	next := maps.Clone(m)
	switch {
	case r.Kind == api.KDelete && !there:
		return api.StMissing, m
	case r.Kind == api.KDelete:
		delete(next, r.Key)
		return api.StOK, next
	case r.Kind == api.KCas && (r.Has != there || there && value != string(r.Old)):
		return api.StDiffers, m
	case !there && free == 0:
		return api.StNoCredit, m
	}
	next[r.Key] = string(r.Value)
	return api.StOK, next
}

// goesTogether (W2, W3, W6).
func (w *watch) goesTogether() {
	w.t.Helper()
	for _, p := range []api.Picture{w.now, w.safe} {
		if found, e := audit.Check(p, 3); e != api.OK || len(found) > 0 {
			w.t.Fatalf("W2, W3, W6: %d, %+v", e, found)
		}
	}
}

// handsUp (W4): what a host hands up is what the other one took for it, in order.
func (w *watch) handsUp(was api.Picture, s api.Step) {
	w.t.Helper()
	for a := range w.now.Hosts {
		for b := range w.now.Hosts {
			way := api.Link{From: api.Addr(a), To: api.Addr(b)}
			w.takes(way, s)
			from, to := was.Hosts[b].End.Peers[a].Delivered, w.now.Hosts[b].End.Peers[a].Delivered
			if to > uint64(len(w.taken[way])) || to < from && (s.Kind != api.SCrash || int(s.A) != b) {
				w.t.Fatalf("W4: %v: from %d to %d of %d", way, from, to, len(w.taken[way]))
			}
			for n := from; n < to; n++ {
				w.isInstalled(w.now.Hosts[b], w.taken[way][n])
			}
			for _, f := range w.now.Hosts[b].End.Peers[a].Early {
				if f.Seq > uint64(len(w.taken[way])) || !bytes.Equal(f.Payload, w.taken[way][f.Seq-1]) {
					w.t.Fatalf("W4: %v: %d is invented", way, f.Seq)
				}
			}
		}
	}
}

// takes follows what a host takes for another one.
func (w *watch) takes(way api.Link, s api.Step) {
	w.t.Helper()
	q, list := w.now.Hosts[way.From].End.Peers[way.To], w.taken[way]
	switch n := uint64(len(list)); {
	case q.Sent < n && s.Kind == api.SCrash && s.A == way.From:
		list = list[:q.Sent]
	case q.Sent == n+1:
		list = append(slices.Clip(list), q.Queue[len(q.Queue)-1])
	case q.Sent != n:
		w.t.Fatalf("W4: %v: %d are taken, then %d", way, n, q.Sent)
	}
	w.taken[way] = list
	if !same(q.Queue, list[q.Acked:]) {
		w.t.Fatalf("W4: %v: the queue is not of what was taken", way)
	}
}

// isInstalled wants a host to have what a delegation brings.
func (w *watch) isInstalled(s api.HostState, payload []byte) {
	w.t.Helper()
	w.seen.ups++
	m, _, _ := wire.Parse(payload)
	owns := slices.ContainsFunc(s.Table, func(g api.Segment) bool { return g.Host == s.Self && g.Lo <= m.Key && m.Hi <= g.Hi })
	inside := slices.DeleteFunc(slices.Clone(s.Pairs), func(p api.Pair) bool { return p.Key < m.Key || p.Key > m.Hi })
	if !owns || !same(inside, m.Pairs) {
		w.t.Fatalf("W4: %+v is not taken in whole: %s", m, brief(s))
	}
}

// holdsOnDisk (W6): the disks hold what was synced.
func (w *watch) holdsOnDisk() {
	w.t.Helper()
	for h, s := range w.safe.Hosts {
		all := w.past[h]
		if want := all[len(all)-1-w.waiting(api.Addr(h))].state; shown(s) != want {
			w.t.Fatalf("W6: the disk of host %d holds %s; want %s", h, brief(s), brief(want))
		}
	}
}

// isDurable tells whether the disks know of a deed.
func (w *watch) isDurable(x deed) bool {
	for h, all := range w.past {
		for _, m := range all[:len(all)-w.waiting(api.Addr(h))] {
			if slices.Contains(m.did, x) {
				return true
			}
		}
	}
	return false
}

// letsGo (W6): no disk holds less than what has left, now and later.
func (w *watch) letsGo(s api.Step, a api.Answer) {
	w.t.Helper()
	list := w.k.Net()
	fresh := letters(list[len(list)-a.Sent:])
	w.left = append(w.left, fresh...)
	if s.Kind == api.SCrash {
		fresh = w.left
	}
	for _, l := range fresh {
		if !w.isTrue(l) {
			w.t.Fatalf("W6: %+v is not true", l)
		}
	}
}

// isTrue tells whether what a letter says is on the disks.
func (w *watch) isTrue(l letter) bool {
	switch l.m.Kind {
	case api.KReply:
		if l.m.Of == api.KGet || l.m.Of == api.KScan {
			return true
		}
		return w.isDurable(deed{ident{l.to, l.m.Seq}, l.m.Status})
	case api.KData:
		list := w.taken[api.Link{From: l.from, To: l.to}]
		return w.safe.Hosts[l.from].End.Peers[l.to].Sent >= l.m.Seq && bytes.Equal(list[l.m.Seq-1], l.m.Payload)
	case api.KAck:
		q := w.safe.Hosts[l.from].End.Peers[l.to]
		for i := range uint64(64) {
			n := l.m.Seq + 2 + i
			early := slices.ContainsFunc(q.Early, func(f api.Frame) bool { return f.Seq == n })
			if l.m.Mask>>i&1 == 1 && !early && n > q.Delivered {
				return false
			}
		}
		return q.Delivered >= l.m.Seq
	}
	return true
}

// answers (W1, W5, W7): what a client is told is what the map had.
func (w *watch) answers(a api.Answer) {
	w.t.Helper()
	for _, e := range a.Events {
		id := ident{e.Who, e.Seq}
		switch e.Kind {
		case api.EvInvoke:
			w.asks[id], w.begun[id] = e.Req, len(w.maps)-1
		case api.EvReturn:
			w.seen.ends++
			if r := w.asks[id]; !w.fits(id, r, e.Out) {
				w.t.Fatalf("W1: %+v is told %+v", r, e.Out)
			}
		}
	}
}

func (w *watch) fits(id ident, r api.Request, out api.Outcome) bool {
	if r.Kind != api.KGet && r.Kind != api.KScan {
		return w.done[id] == out.Status
	}
	return slices.ContainsFunc(w.maps[w.begun[id]:], func(m map[uint64]string) bool {
		if r.Kind == api.KGet {
			value, there := m[r.Key]
			return there == (out.Status == api.StOK) && value == string(out.Value)
		}
		var pairs []api.Pair
		for _, key := range slices.Sorted(maps.Keys(m)) {
			if key >= r.Key && key <= out.Hi {
				pairs = append(pairs, pair(key, m[key]))
			}
		}
		return same(pairs, out.Pairs) && out.Hi <= r.Hi && len(pairs) <= int(r.Limit)
	})
}

// settle plays what a Settle says, in single steps.
func (w *watch) settle(rounds int, x uint64) {
	w.t.Helper()
	bySteps(w.k, w.c.Hosts, rounds, x, w.step)
}

// isLinear (W7).
func (w *watch) isLinear() {
	w.t.Helper()
	calls, place, e := history.Fold(w.k.Events())
	if e != api.OK {
		w.t.Fatalf("W7: %d at event %d", e, place)
	}
	v, e := linear.Check(calls, 3)
	if e != api.OK || !v.Ok || !linear.Obeys(calls, v.Order) {
		w.t.Fatalf("W7: %d, %+v of %+v", e, v, calls)
	}
}

// rests (W9).
func (w *watch) rests(x uint64) {
	w.t.Helper()
	for h := range api.Addr(w.c.Hosts) {
		w.step(on(api.SRestart, h))
	}
	for _, l := range w.cut {
		w.step(heal(l.From, l.To))
	}
	lost := w.k.Count().Lost
	w.settle(w.c.Queue+1, x)
	if w.k.Count().Lost > lost {
		w.seen.lost++
		return
	}
	if live, e := audit.Live(w.now); e != api.OK || len(live) > 0 || len(w.k.Net()) > 0 {
		w.t.Fatalf("W9: no rest: %d, %+v", e, live)
	}
	if _, e := w.k.Plan(); e != api.OK {
		w.t.Fatalf("W9: Plan: %d", e)
	}
	for i := range w.c.Clients {
		w.finds(16+api.Addr(i), x)
	}
}

// finds: a client that asks any host has its answer after few redirects.
func (w *watch) finds(who api.Addr, x uint64) {
	w.t.Helper()
	w.step(on(api.SGiveUp, who))
	for h := range api.Addr(w.c.Hosts) {
		lost := w.k.Count().Lost
		w.step(beginAt(who, h, get(x+uint64(h)*3%12)))
		w.settle(1, x)
		out, _ := w.k.Client(who)
		if out.Phase != api.PhDone || out.Hops > w.c.Hosts-1 {
			if w.k.Count().Lost == lost {
				w.t.Fatalf("W9: at host %d: %+v", h, out)
			}
			w.step(on(api.SGiveUp, who))
		}
	}
}
