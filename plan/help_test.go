package plan_test

import (
	"fmt"
	"math/rand"
	"reflect"
	"slices"
	"testing"
	"time"
	"unsafe"

	"shard/api"
	"shard/plan"
)

const (
	top     uint64 = 1<<64 - 1
	farAway        = int(^uint(0) >> 1)
	maxLoad        = 1 << 30
)

// What follows says the chapter's rules once more, in other words than the package: each thing is counted anew, key by key and host by host.

func docLoadsMayBe(loads []int) bool {
	for _, load := range loads {
		if load < 0 || load > maxLoad {
			return false
		}
	}
	return len(loads) >= 1 && len(loads) <= 16
}

// docTargets gives one more to the host with the greatest load that has none yet, again and again.
func docTargets(loads []int) []int {
	n, total := len(loads), 0
	for _, load := range loads {
		total += load
	}
	targets := make([]int, n)
	for host := range targets {
		targets[host] = total / n
	}
	for range total % n {
		best := -1
		for host, load := range loads {
			if targets[host] == total/n && (best < 0 || load > loads[best]) {
				best = host
			}
		}
		targets[best]++
	}
	return targets
}

// docIsTable tells whether every key lies in just one of the segments, which rise, and there are not too many owners one behind the other.
func docIsTable(segs []api.Segment) bool {
	count, free, ended := 0, uint64(0), false
	for i, s := range segs {
		if ended || s.Lo != free || s.Lo > s.Hi || s.Host > 15 {
			return false
		}
		if i == 0 || segs[i-1].Host != s.Host {
			count++
		}
		free, ended = s.Hi+1, s.Hi == top
	}
	return ended && count <= api.MaxSegments
}

func docIsLayout(hosts int, segs []api.Segment, keys []uint64) bool {
	for _, s := range segs {
		if int(s.Host) >= hosts {
			return false
		}
	}
	for i := range keys {
		if i > 0 && keys[i-1] >= keys[i] {
			return false
		}
	}
	return docIsTable(segs)
}

func docOwner(segs []api.Segment, key uint64) api.Addr {
	for _, s := range segs {
		if s.Lo <= key && key <= s.Hi {
			return s.Host
		}
	}
	panic("no owner")
}

func docLoads(hosts int, segs []api.Segment, keys []uint64) []int {
	loads := make([]int, hosts)
	for _, key := range keys {
		loads[docOwner(segs, key)]++
	}
	return loads
}

// docJoin makes one of neighbours of one owner.
func docJoin(segs []api.Segment) []api.Segment {
	var out []api.Segment
	for _, s := range segs {
		if n := len(out); n > 0 && out[n-1].Host == s.Host {
			out[n-1].Hi = s.Hi
		} else {
			out = append(out, s)
		}
	}
	return out
}

// docGive lets the keys lo to hi be a host's.
func docGive(segs []api.Segment, lo, hi uint64, host api.Addr) []api.Segment {
	var out []api.Segment
	for _, s := range segs {
		if s.Hi < lo || s.Lo > hi {
			out = append(out, s)
			continue
		}
		if s.Lo < lo {
			out = append(out, api.Segment{Lo: s.Lo, Hi: lo - 1, Host: s.Host})
		}
		out = append(out, api.Segment{Lo: max(s.Lo, lo), Hi: min(s.Hi, hi), Host: host})
		if s.Hi > hi {
			out = append(out, api.Segment{Lo: hi + 1, Hi: s.Hi, Host: s.Host})
		}
	}
	return docJoin(out)
}

func docWithin(keys []uint64, lo, hi uint64) []uint64 {
	var out []uint64
	for _, key := range keys {
		if lo <= key && key <= hi {
			out = append(out, key)
		}
	}
	return out
}

// docMoves finds the moves as the chapter's list says it, all of it anew for each move.
func docMoves(hosts int, segs []api.Segment, keys []uint64, most int) []api.Move {
	targets := docTargets(docLoads(hosts, segs, keys))
	segs = docJoin(segs)
	var moves []api.Move
	for {
		giver, taker, surplus, lack := -1, -1, 0, 0
		for host, load := range docLoads(hosts, segs, keys) {
			if load-targets[host] > surplus {
				giver, surplus = host, load-targets[host]
			}
			if targets[host]-load > lack {
				taker, lack = host, targets[host]-load
			}
		}
		if giver < 0 {
			return moves
		}
		var highest api.Segment
		for _, s := range segs {
			if int(s.Host) == giver && len(docWithin(keys, s.Lo, s.Hi)) > 0 {
				highest = s
			}
		}
		inside := docWithin(keys, highest.Lo, highest.Hi)
		pairs := min(surplus, lack, most, len(inside))
		m := move(giver, taker, highest.Lo, highest.Hi, pairs)
		if pairs < len(inside) {
			m.Lo = inside[len(inside)-pairs]
		}
		moves = append(moves, m)
		segs = docGive(segs, m.Lo, m.Hi, m.To)
	}
}

// docPlay gives the segments behind moves, and whether all of them may be.
func docPlay(segs []api.Segment, moves []api.Move) ([]api.Segment, api.Errno) {
	if !docIsTable(segs) {
		return nil, api.ErrLayout
	}
	segs = docJoin(segs)
	for _, m := range moves {
		if m.Lo > m.Hi || m.From > 15 || m.To > 15 || m.From == m.To {
			return nil, api.ErrMove
		}
		for _, s := range segs {
			if s.Host != m.From && s.Lo <= m.Hi && m.Lo <= s.Hi {
				return nil, api.ErrMove
			}
		}
		segs = docGive(segs, m.Lo, m.Hi, m.To)
	}
	return segs, api.OK
}

// docFewest is the least number of keys that any moves need to an even end: all even ends there are, each host that has too many giving away the rest.
func docFewest(loads []int) int {
	n, total := len(loads), 0
	for _, load := range loads {
		total += load
	}
	fewest := total
	for chosen := range 1 << n {
		end, sum, given := 0, 0, 0
		for host, load := range loads {
			end = total/n + chosen>>host&1
			sum += end
			given += max(0, load-end)
		}
		if sum == total {
			fewest = min(fewest, given)
		}
	}
	return fewest
}

func seg(lo, hi uint64, host int) api.Segment {
	return api.Segment{Lo: lo, Hi: hi, Host: api.Addr(host)}
}

func segs(list ...api.Segment) []api.Segment { return list }

// all is the table in which one host owns every key.
func all(host int) []api.Segment { return segs(seg(0, top, host)) }

func move(from, to int, lo, hi uint64, pairs int) api.Move {
	return api.Move{From: api.Addr(from), To: api.Addr(to), Lo: lo, Hi: hi, Pairs: pairs}
}

func moves(list ...api.Move) []api.Move { return list }

func keys(list ...uint64) []uint64 { return list }

// upTo gives the keys from 1 on, so many of them.
func upTo(n int) []uint64 {
	out := make([]uint64, n)
	for i := range out {
		out[i] = uint64(i + 1)
	}
	return out
}

// combed gives a table of so many segments, of one key each but for the last, whose owners take turns.
func combed(n, hosts int) []api.Segment {
	out := make([]api.Segment, n)
	for i := range out {
		out[i] = seg(uint64(i), uint64(i), i%hosts)
	}
	out[n-1].Hi = top
	return out
}

func isSame(t *testing.T, what string, got, want any) {
	t.Helper()
	if !reflect.DeepEqual(got, want) {
		t.Fatalf("%s: %v, want %v", what, got, want)
	}
}

// isList holds two lists against each other; an empty one, nil or not, is the same.
func isList[T comparable](t *testing.T, what string, got []T, e api.Errno, want []T, err api.Errno) {
	t.Helper()
	if e != err || !slices.Equal(got, want) {
		t.Fatalf("%s = %v, %d, want %v, %d", what, got, e, want, err)
	}
}

func isTargets(t *testing.T, loads []int, want []int, err api.Errno) {
	t.Helper()
	got, e := plan.Targets(loads)
	isList(t, fmt.Sprintf("Targets(%v)", loads), got, e, want, err)
}

func isSkew(t *testing.T, loads []int, want float64, err api.Errno) {
	t.Helper()
	got, e := plan.Skew(loads)
	isSame(t, fmt.Sprintf("Skew(%v)", loads), []any{got, e}, []any{want, err})
}

func isLoads(t *testing.T, hosts int, segs []api.Segment, keys []uint64, want []int, err api.Errno) {
	t.Helper()
	got, e := plan.Loads(hosts, segs, keys)
	isList(t, fmt.Sprintf("Loads(%d, %v, %v)", hosts, segs, keys), got, e, want, err)
}

func isMoves(t *testing.T, hosts int, segs []api.Segment, keys []uint64, most int, want []api.Move, err api.Errno) {
	t.Helper()
	got, e := plan.Moves(hosts, segs, keys, most)
	isList(t, fmt.Sprintf("Moves(%d, %v, %v, %d)", hosts, segs, keys, most), got, e, want, err)
}

func isPlay(t *testing.T, segs []api.Segment, moves []api.Move, want []api.Segment, err api.Errno) {
	t.Helper()
	got, e := plan.Play(segs, moves)
	isList(t, fmt.Sprintf("Play(%v, %v)", segs, moves), got, e, want, err)
}

// inTime lets f end within a time that only work that grows too fast needs.
func inTime(t *testing.T, f func()) {
	t.Helper()
	ended := make(chan struct{})
	go func() {
		defer close(ended)
		f()
	}()
	select {
	case <-ended:
	case <-time.After(2 * time.Minute):
		t.Fatal("still at work")
	}
}

// dice makes things at random.
type dice struct{ *rand.Rand }

func diceOf(seed int) dice { return dice{rand.New(rand.NewSource(int64(seed)))} }

// key gives a key, often one of few, near either end or far from both.
func (d dice) key() uint64 {
	switch near := uint64(d.Intn(40)); d.Intn(4) {
	case 0:
		return near
	case 1:
		return top - near
	case 2:
		return 1<<63 + near
	}
	return d.Uint64()
}

func (d dice) keys(n int) []uint64 {
	var out []uint64
	for range n {
		out = append(out, d.key())
	}
	slices.Sort(out)
	return slices.Compact(out)
}

// table gives a table of up to so many segments; neighbours may have one owner.
func (d dice) table(n, hosts int) []api.Segment {
	var out []api.Segment
	lo := uint64(0)
	for _, hi := range d.keys(d.Intn(n)) {
		if hi < top {
			out = append(out, seg(lo, hi, d.Intn(hosts)))
			lo = hi + 1
		}
	}
	return append(out, seg(lo, top, d.Intn(hosts)))
}

// tilted gives a table of which host 0, or another one, has most.
func (d dice) tilted(n, hosts int) []api.Segment {
	out, most := d.table(n, hosts), d.Intn(hosts)
	for i := range out {
		if d.Intn(3) > 0 {
			out[i].Host = api.Addr(most)
		}
	}
	return out
}

// move gives a move that may be in a table.
func (d dice) move(segs []api.Segment) api.Move {
	s := segs[d.Intn(len(segs))]
	m := api.Move{From: s.Host, To: (s.Host + 1 + api.Addr(d.Intn(15))) % 16, Lo: s.Lo, Hi: s.Hi, Pairs: d.Intn(9) - 4}
	inside := docWithin([]uint64{s.Lo, s.Hi, s.Lo + 1, s.Hi - 1, s.Lo/2 + s.Hi/2, d.key(), d.key()}, s.Lo, s.Hi)
	if d.Intn(2) == 0 {
		m.Lo = inside[d.Intn(len(inside))]
	}
	if d.Intn(2) == 0 {
		above := docWithin(inside, m.Lo, s.Hi)
		m.Hi = above[d.Intn(len(above))]
	}
	return m
}

// moves gives moves that may be one behind the other.
func (d dice) moves(segs []api.Segment, n int) []api.Move {
	now := docJoin(segs)
	out := make([]api.Move, n)
	for i := range out {
		out[i] = d.move(now)
		now = docGive(now, out[i].Lo, out[i].Hi, out[i].To)
	}
	return out
}

// spoilMove changes something in a move, so that it often may not be.
func (d dice) spoilMove(m *api.Move) {
	switch d.Intn(6) {
	case 0:
		m.Lo = d.key()
	case 1:
		m.Hi = d.key()
	case 2:
		m.From = api.Addr(d.Intn(256))
	case 3:
		m.To = api.Addr(d.Intn(256))
	case 4:
		m.To = m.From
	case 5:
		m.Lo, m.Hi = m.Lo-1, m.Hi+1
	}
}

// spoilTable changes something in a table, so that it often is none.
func (d dice) spoilTable(segs []api.Segment) []api.Segment {
	if len(segs) == 0 {
		return segs
	}
	s := &segs[d.Intn(len(segs))]
	switch d.Intn(5) {
	case 0:
		s.Lo = d.key()
	case 1:
		s.Hi = d.key()
	case 2:
		s.Host = api.Addr(d.Intn(256))
	case 3:
		return segs[:d.Intn(len(segs))]
	case 4:
		return append(segs, *s)
	}
	return segs
}

// edges are numbers near which something changes.
func edges() []int {
	return []int{-farAway - 1, -farAway, -1, 0, 1, 2, 15, 16, 17, 31, 32, 33, maxLoad - 1, maxLoad, maxLoad + 1, farAway - 1, farAway}
}

// room is where a list lies, spare room included.
type room struct{ first, behind uintptr }

func roomOf[T any](list []T) []room {
	var one T
	if cap(list) == 0 {
		return nil
	}
	first := uintptr(unsafe.Pointer(unsafe.SliceData(list)))
	return []room{{first, first + uintptr(cap(list))*unsafe.Sizeof(one)}}
}

func apart(rooms []room) bool {
	slices.SortFunc(rooms, func(a, b room) int { return int(a.first) - int(b.first) })
	for i := 1; i < len(rooms); i++ {
		if rooms[i-1].behind > rooms[i].first {
			return false
		}
	}
	return true
}
