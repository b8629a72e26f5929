package lossy_test

import (
	"bytes"
	"slices"
	"testing"
	"unsafe"

	"shard/api"
	"shard/lossy"
)

// docNet says the chapter's rules once more, in other words than the package: a datagram's bytes are a string, a link is blocked or not by its place in a square.
type docNet struct {
	room    int
	list    []docDatagram
	blocked [256][256]bool
	count   api.NetCount
}

type docDatagram struct {
	from, to int
	data     string
}

func (n *docNet) send(from, to int, data []byte) api.Errno {
	if from > 32 {
		return api.ErrLossySource
	}
	return n.add(docDatagram{from, to, string(data)}, &n.count.Sent)
}

func (n *docNet) inject(from, to int, data []byte) api.Errno {
	if from < 33 {
		return api.ErrLossySource
	}
	return n.add(docDatagram{from, to, string(data)}, &n.count.Injected)
}

func (n *docNet) add(d docDatagram, taken *int) api.Errno {
	switch {
	case d.data == "" || len(d.data) > 1024:
		return api.ErrLossyLong
	case n.blocked[d.from][d.to]:
		n.count.Barred++
		return api.ErrLossyBarred
	case len(n.list) == n.room:
		n.count.Lost++
		return api.ErrLossyFull
	}
	*taken++
	n.list = append(n.list, d)
	return api.OK
}

func (n *docNet) look(i int) (docDatagram, api.Errno) {
	for place, d := range n.list {
		if place == i {
			return d, api.OK
		}
	}
	return docDatagram{}, api.ErrLossyIndex
}

func (n *docNet) deliver(i int, keep bool) (docDatagram, api.Errno) {
	d, e := n.look(i)
	if e != api.OK {
		return docDatagram{}, e
	}
	if n.blocked[d.from][d.to] {
		return docDatagram{}, api.ErrLossyBarred
	}
	n.count.Delivered++
	if keep {
		n.count.Copied++
		return d, api.OK
	}
	n.list = slices.Concat(n.list[:i], n.list[i+1:])
	return d, api.OK
}

func (n *docNet) drop(at ...int) (int, api.Errno) {
	places := slices.Clone(at)
	slices.Sort(places)
	places = slices.Compact(places)
	for _, i := range places {
		if _, e := n.look(i); e != api.OK {
			return 0, e
		}
	}
	// From the last place to the first, so that those ahead are still where they were.
	for _, i := range slices.Backward(places) {
		n.list = slices.Concat(n.list[:i], n.list[i+1:])
	}
	n.count.Dropped += len(places)
	return len(places), api.OK
}

func (n *docNet) sweep(from, to int) int {
	var places []int
	for i, d := range n.list {
		if (from == -1 || from == d.from) && (to == -1 || to == d.to) {
			places = append(places, i)
		}
	}
	gone, _ := n.drop(places...)
	return gone
}

func (n *docNet) heal(from, to int) int {
	opened := 0
	for _, l := range n.links() {
		if (from == -1 || from == int(l.From)) && (to == -1 || to == int(l.To)) {
			n.blocked[l.From][l.To] = false
			opened++
		}
	}
	return opened
}

func (n *docNet) links() []api.Link {
	var out []api.Link
	for from := range 256 {
		for to := range 256 {
			if n.blocked[from][to] {
				out = append(out, api.Link{From: api.Addr(from), To: api.Addr(to)})
			}
		}
	}
	return out
}

func same(d api.Datagram, want docDatagram) bool {
	return int(d.From) == want.from && int(d.To) == want.to && string(d.Data) == want.data
}

func newNet(t *testing.T, room int) *lossy.Net {
	t.Helper()
	n, e := lossy.New(room)
	if n == nil || e != api.OK {
		t.Fatalf("New(%d): %v, %d", room, n, e)
	}
	return n
}

// line makes a network whose list is from 0 to 1 with the first of these bytes, from 1 to 2 with the next one, and so on.
func line(t *testing.T, data string) *lossy.Net {
	t.Helper()
	n := newNet(t, 40)
	for i := range len(data) {
		isErr(t, n.Send(api.Addr(i), api.Addr(i+1), []byte{data[i]}), api.OK)
	}
	return n
}

func isErr(t *testing.T, got, want api.Errno) {
	t.Helper()
	if got != want {
		t.Errorf("error %d; want %d", got, want)
	}
}

func isNumber(t *testing.T, got, want int) {
	t.Helper()
	if got != want {
		t.Errorf("number %d; want %d", got, want)
	}
}

func isDrop(t *testing.T, n *lossy.Net, at []int, want int, wantErr api.Errno) {
	t.Helper()
	if gone, e := n.Drop(at...); gone != want || e != wantErr {
		t.Errorf("Drop(%v): %d, %d; want %d, %d", at, gone, e, want, wantErr)
	}
}

func isDeliver(t *testing.T, n *lossy.Net, i int, keep bool, want docDatagram, wantErr api.Errno) {
	t.Helper()
	if d, e := n.Deliver(i, keep); !same(d, want) || e != wantErr {
		t.Errorf("Deliver(%d, %v): %v, %d; want %v, %d", i, keep, d, e, want, wantErr)
	}
}

func isLook(t *testing.T, n *lossy.Net, i int, want docDatagram, wantErr api.Errno) {
	t.Helper()
	if d, e := n.Look(i); !same(d, want) || e != wantErr {
		t.Errorf("Look(%d): %v, %d; want %v, %d", i, d, e, want, wantErr)
	}
}

// isData holds the bytes of all datagrams against those that are wanted.
func isData(t *testing.T, n *lossy.Net, want string) {
	t.Helper()
	var got []byte
	for _, d := range n.List() {
		got = append(got, d.Data...)
	}
	if string(got) != want {
		t.Errorf("List: %q; want %q", got, want)
	}
}

func isBlocked(t *testing.T, n *lossy.Net, want ...api.Link) {
	t.Helper()
	if got := n.Blocked(); !slices.Equal(got, want) {
		t.Errorf("Blocked: %v; want %v", got, want)
	}
}

func isCount(t *testing.T, n *lossy.Net, want api.NetCount) {
	t.Helper()
	if got := n.Count(); got != want {
		t.Errorf("Count: %+v; want %+v", got, want)
	}
}

// isNet holds all that a network tells of itself against the document's.
func isNet(t *testing.T, n *lossy.Net, want *docNet) {
	t.Helper()
	if got := n.List(); !slices.EqualFunc(got, want.list, same) || n.Len() != len(want.list) {
		t.Fatalf("List: %v, Len: %d; want %v", got, n.Len(), want.list)
	}
	if got := n.Blocked(); !slices.Equal(got, want.links()) {
		t.Fatalf("Blocked: %v; want %v", got, want.links())
	}
	c := n.Count()
	if c != want.count {
		t.Fatalf("Count: %+v; want %+v", c, want.count)
	}
	if c.Sent+c.Injected != n.Len()+c.Delivered-c.Copied+c.Dropped {
		t.Fatalf("Count: %+v does not go together with Len %d", c, n.Len())
	}
}

// apart tells whether no two lists share a byte, spare room included.
func apart(lists ...[]byte) bool {
	type room struct{ first, behind uintptr }
	var rooms []room
	for _, l := range lists {
		if cap(l) > 0 {
			first := uintptr(unsafe.Pointer(unsafe.SliceData(l)))
			rooms = append(rooms, room{first, first + uintptr(cap(l))})
		}
	}
	slices.SortFunc(rooms, func(a, b room) int { return int(a.first) - int(b.first) })
	for i := 1; i < len(rooms); i++ {
		if rooms[i-1].behind > rooms[i].first {
			return false
		}
	}
	return true
}

// spoil writes over a list and its spare room.
func spoil(b []byte) {
	b = b[:cap(b)]
	for i := range b {
		b[i] ^= 0x5a
	}
}

func long(n int) []byte { return bytes.Repeat([]byte{'l'}, n) }
