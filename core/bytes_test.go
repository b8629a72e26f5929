package core_test

import (
	"bytes"
	"encoding/binary"
	"math/rand"
	"slices"
	"testing"

	"shard/api"
	"shard/core"
)

func isSaved(t *testing.T, s api.HostState) []byte {
	t.Helper()
	b, e := core.Save(s)
	want := sealed(docBody(s))
	if e != api.OK || !bytes.Equal(b, want) {
		t.Errorf("Save(%s): %.200x, %d; want %.200x", brief(s), b, e, want)
	}
	back, e := core.Read(b)
	if e != api.OK || shown(back) != shown(s) {
		t.Errorf("Read(Save(%s)): %s, %d", brief(s), brief(back), e)
	}
	return b
}

func isUnread(t *testing.T, name string, b []byte) {
	t.Helper()
	if s, e := core.Read(b); e != api.ErrState || shown(s) != shown(api.HostState{}) {
		t.Errorf("%s: Read: %s, %d", name, brief(s), e)
	}
}

func TestP10_19Bytes(t *testing.T) {
	n := newCore(t, small(), 0)
	must(t, n, 17, set(3, 7, "ab"))
	want := []byte{0xC0, 1, 0, 1, 255, 255, 255, 255, 255, 255, 255, 255, 0, 1, 0, 0, 0, 0, 0, 0, 0, 7, 2, 'a', 'b', 1, 17, 0, 0, 0, 0, 0, 0, 0, 3, 1, 1, 3, 2}
	want = sealed(append(want, make([]byte, 2*34)...))
	if got := isSaved(t, n.State()); !bytes.Equal(got, want) {
		t.Errorf("%x; want %x", got, want)
	}
}

func TestP10_19Rows(t *testing.T) {
	for _, row := range stateRows() {
		s := full()
		row.change(&s)
		if row.fine {
			isSaved(t, s)
		} else if b, e := core.Save(s); len(b) != 0 || e != api.ErrState {
			t.Errorf("%s: Save: %d bytes, %d", row.name, len(b), e)
		}
	}
	if b, e := core.Save(api.HostState{}); len(b) != 0 || e != api.ErrState {
		t.Errorf("Save of the zero state: %d bytes, %d", len(b), e)
	}
}

// greatest is a state as great as can be.
func greatest() api.HostState {
	s := api.HostState{Self: 3, Table: comb(mostSegments, 3, 5), Free: mostCredits - mostShelf, Spare: mostCredits - mostSegments}
	s.Table[mostSegments-2].Hi += 100000
	s.Table[mostSegments-1].Lo += 100000
	for i := range uint64(mostShelf) {
		s.Pairs = append(s.Pairs, api.Pair{Key: s.Table[mostSegments-2].Lo + i, Value: bytes.Repeat([]byte{byte(i)}, 64)})
	}
	var long []api.Pair
	for i := range uint64(mostMove) {
		long = append(long, api.Pair{Key: i << 58, Value: make([]byte, 64)})
	}
	for i := range api.Addr(16) {
		s.Sessions = append(s.Sessions, sess(16+i, top, api.StNoCredit))
	}
	payload := delegation(0, top, mostGrant, mostGrant, long, s.Sessions)
	for h := range 16 {
		p := api.PeerState{Sent: top, Acked: top - 16, Mask: 1<<15 - 1, Delivered: top - 17}
		for i := range uint64(16) {
			p.Queue = append(p.Queue, payload)
			if i > 0 {
				p.Early = append(p.Early, api.Frame{Seq: top - 16 + i, Payload: payload})
			}
		}
		if h == 3 {
			p = api.PeerState{}
		}
		s.End.Peers = append(s.End.Peers, p)
	}
	return s
}

func TestP10_19Greatest(t *testing.T) {
	b := isSaved(t, greatest())
	if len(b) > 1<<22 { // the bound of a journal's state
		t.Errorf("%d bytes", len(b))
	}
}

// Every prefix, every turned bit, bytes behind the whole.
func TestP10_20Damaged(t *testing.T) {
	b := sealed(docBody(full()))
	for i := range b {
		isUnread(t, "a prefix", b[:i])
		for bit := range 8 {
			x := slices.Clone(b)
			x[i] ^= 1 << bit
			isUnread(t, "a turned bit", x)
		}
	}
	isUnread(t, "a byte behind", append(slices.Clone(b), 0))
	isUnread(t, "nothing", nil)
	isUnread(t, "zeros", make([]byte, 200))
	isUnread(t, "huge", make([]byte, 1<<24+1))
	isUnread(t, "huge, and begins well", append(slices.Clone(b), make([]byte, 1<<24)...))
}

// Each body with one byte another, one left out or one put in, under a right sum: either it is refused, or it is just what Save gives for what was read.
func TestP10_20OtherBodies(t *testing.T) {
	body := docBody(full())
	took := 0
	hold := func(x []byte) {
		b := sealed(x)
		s, e := core.Read(b)
		if e != api.OK {
			isUnread(t, "another body", b)
			return
		}
		took++
		if again, e := core.Save(s); e != api.OK || !bytes.Equal(again, b) || !docWellFormed(s) || !bytes.Equal(docBody(s), x) {
			t.Errorf("Read took %.300x, but Save gives %.300x, %d", b, again, e)
		}
	}
	for i := range body {
		for _, value := range []byte{0, 1, 2, 15, 16, 127, 128, 255, body[i] - 1, body[i] + 1} {
			x := slices.Clone(body)
			x[i] = value
			hold(x)
		}
		hold(slices.Delete(slices.Clone(body), i, i+1))
		hold(slices.Insert(slices.Clone(body), i, 0))
		hold(slices.Insert(slices.Clone(body), i, 128))
		hold(body[:i])
	}
	if took == 0 {
		t.Errorf("none was taken")
	}
}

// States that are not well-formed, written out as if they were.
func TestP10_20NotWellFormed(t *testing.T) {
	for _, row := range stateRows() {
		if row.fine {
			continue
		}
		s := full()
		row.change(&s)
		b := sealed(docBody(s))
		back, e := core.Read(b)
		if e == api.OK { // a Lo is not written: the bytes may be another state's
			if again, e := core.Save(back); e != api.OK || !bytes.Equal(again, b) || shown(back) == shown(s) {
				t.Errorf("%s: Read took it: %s", row.name, brief(back))
			}
			continue
		}
		isUnread(t, row.name, b)
	}
}

// forged gives four bytes behind which some bytes have a sum.
func forged(ahead []byte, sum uint32) []byte {
	of := func(x uint32) uint32 {
		return binary.BigEndian.Uint32(sealed(binary.BigEndian.AppendUint32(slices.Clone(ahead), x))[len(ahead)+4:])
	}
	// Each bit turns its own bits of the sum: they are solved for as linear equations are.
	type row struct{ turns, bits uint32 }
	var rows [32]row
	for i := range 32 {
		x := row{of(1<<i) ^ of(0), 1 << i}
		for bit := 31; bit >= 0 && x.turns != 0; bit-- {
			if x.turns>>bit&1 == 0 {
				continue
			}
			if rows[bit].turns == 0 {
				rows[bit] = x
				break
			}
			x = row{x.turns ^ rows[bit].turns, x.bits ^ rows[bit].bits}
		}
	}
	x, rest := uint32(0), sum^of(0)
	for bit := 31; bit >= 0; bit-- {
		if rest>>bit&1 == 1 {
			x, rest = x^rows[bit].bits, rest^rows[bit].turns
		}
	}
	return binary.BigEndian.AppendUint32(nil, x)
}

// Bytes behind the whole are refused, even where what stands in the sum's place and the sum at the end both fit.
func TestP10_20BytesLeft(t *testing.T) {
	body := docBody(full())
	whole := append(slices.Clone(body), 1, 2, 3, 4)
	long := append(whole, forged(whole, 0x01020304)...)
	if b := sealed(long); !bytes.Equal(b[len(b)-4:], []byte{1, 2, 3, 4}) {
		t.Fatalf("the sum is not forged: %x", b[len(b)-4:])
	} else {
		isUnread(t, "bytes left", b)
	}
}

// Numbers of items that no list can have are refused before room is made for them.
func TestP10_20HugeNumbers(t *testing.T) {
	huge := [][]byte{{255, 255, 255, 255, 255, 255, 255, 255, 255, 1}, {255, 255, 255, 255, 15}, {128, 128, 128, 128, 128, 128, 128, 128, 128, 2}, {128, 0}}
	s := start(small(), 0)
	body := docBody(s)
	// Where each number stands: of segments, pairs, sessions, Free, Spare, payloads, frames.
	for _, at := range []int{3, 13, 14, 15, 16, 50, 51} {
		for _, n := range huge {
			x := slices.Concat(body[:at], n, body[at+1:])
			isUnread(t, "a huge number", sealed(x))
		}
	}
	for _, peers := range []byte{0, 1, 3, 16, 17, 255} {
		x := slices.Clone(body)
		x[17] = peers
		isUnread(t, "another number of peers", sealed(x))
	}
}

func TestP10_20AnyBytes(t *testing.T) {
	r := rand.New(rand.NewSource(1))
	body := docBody(full())
	for range 3000 {
		x := make([]byte, r.Intn(60))
		r.Read(x)
		isUnread(t, "any bytes", x)
		isUnread(t, "any bytes, with a sum", sealed(x))
		isUnread(t, "any bytes behind a good begin", sealed(append(slices.Clone(body[:r.Intn(len(body)-80)]), x...)))
	}
}
