package lossy_test

import (
	"bytes"
	"math"
	"testing"

	"shard/api"
	"shard/lossy"
)

var noPlaces = []int{-1, -2, math.MinInt, math.MaxInt, 1 << 32, 4096, 256}

func TestP5_1New(t *testing.T) {
	for _, room := range []int{0, -1, math.MinInt, 4097, 1 << 32, 1<<32 + 1, math.MaxInt} {
		if n, e := lossy.New(room); n != nil || e != api.ErrArg {
			t.Errorf("New(%d): %v, %d", room, n, e)
		}
	}
	for _, room := range []int{1, 2, 4095, 4096} {
		isNet(t, newNet(t, room), &docNet{})
	}
}

func TestP5_1RoomIsWhatTheListHolds(t *testing.T) {
	for _, room := range []int{1, 2, 3, 17, 4095, 4096} {
		n := newNet(t, room)
		for i := range room {
			if e := n.Send(0, api.Addr(i), []byte{byte(i), byte(i >> 8)}); e != api.OK {
				t.Fatalf("room %d: Send of datagram %d: %d", room, i, e)
			}
		}
		isErr(t, n.Send(0, 1, []byte("x")), api.ErrLossyFull)
		isErr(t, n.Inject(40, 1, []byte("x")), api.ErrLossyFull)
		isCount(t, n, api.NetCount{Sent: room, Lost: 2})
		isNumber(t, n.Len(), room)
		for i, d := range n.List() {
			if d.To != api.Addr(i) || !bytes.Equal(d.Data, []byte{byte(i), byte(i >> 8)}) {
				t.Fatalf("room %d: datagram %d is %v", room, i, d)
			}
		}
	}
}

func TestP5_2SendFromEachAddress(t *testing.T) {
	for from := range 256 {
		for _, to := range []api.Addr{0, 15, 16, 32, 33, 255, api.Addr(from)} {
			n := newNet(t, 2)
			want := docNet{room: 2}
			isErr(t, n.Send(api.Addr(from), to, []byte("s")), want.send(from, int(to), []byte("s")))
			isErr(t, n.Inject(api.Addr(from), to, []byte("i")), want.inject(from, int(to), []byte("i")))
			isNet(t, n, &want)
			isNumber(t, n.Len(), 1)
		}
	}
}

func TestP5_2SendSizes(t *testing.T) {
	for size := range 1100 {
		n := newNet(t, 4)
		want := docNet{room: 4}
		isErr(t, n.Send(0, 1, long(size)), want.send(0, 1, long(size)))
		isErr(t, n.Inject(33, 1, long(size)), want.inject(33, 1, long(size)))
		isNet(t, n, &want)
	}
	n := newNet(t, 4)
	isErr(t, n.Send(0, 1, nil), api.ErrLossyLong)
	isErr(t, n.Send(0, 1, long(1025)), api.ErrLossyLong)
	isErr(t, n.Send(0, 1, long(1<<20)), api.ErrLossyLong)
	isErr(t, n.Send(0, 1, long(1024)), api.OK)
	isErr(t, n.Inject(40, 1, nil), api.ErrLossyLong)
	isErr(t, n.Inject(40, 1, long(1025)), api.ErrLossyLong)
	isErr(t, n.Inject(40, 1, long(1024)), api.OK)
	isCount(t, n, api.NetCount{Sent: 1, Injected: 1})
}

// layOrder holds Send or Inject to the order of its errors: the source, the size, the link, the room. It may lay in from mine, not from theirs; full is the network's count when its one place is taken.
func layOrder(t *testing.T, n *lossy.Net, lay func(from, to api.Addr, data []byte) api.Errno, mine, theirs api.Addr, full api.NetCount) {
	t.Helper()
	isErr(t, lay(mine, 0, []byte("z")), api.OK)
	isErr(t, n.Block(mine, 1), api.OK)
	isErr(t, n.Block(theirs, 1), api.OK)
	for _, data := range [][]byte{nil, []byte("x"), long(1024), long(1025)} {
		isErr(t, lay(theirs, 1, data), api.ErrLossySource)
		isErr(t, lay(theirs, 2, data), api.ErrLossySource)
	}
	for _, data := range [][]byte{nil, long(1025)} {
		isErr(t, lay(mine, 1, data), api.ErrLossyLong)
		isErr(t, lay(mine, 2, data), api.ErrLossyLong)
	}
	isCount(t, n, full)
	isErr(t, lay(mine, 1, []byte("x")), api.ErrLossyBarred)
	full.Barred = 1
	isCount(t, n, full)
	isErr(t, lay(mine, 2, []byte("x")), api.ErrLossyFull)
	full.Lost = 1
	isCount(t, n, full)
	isData(t, n, "z")
}

func TestP5_2SendOrderOfErrors(t *testing.T) {
	for _, theirs := range []api.Addr{33, 40, 255} {
		n := newNet(t, 1)
		layOrder(t, n, n.Send, 32, theirs, api.NetCount{Sent: 1})
	}
}

func TestP5_3InjectOrderOfErrors(t *testing.T) {
	for _, theirs := range []api.Addr{0, 16, 32} {
		n := newNet(t, 1)
		layOrder(t, n, n.Inject, 33, theirs, api.NetCount{Injected: 1})
	}
}

// The document's first two examples.
func TestP5_3Examples(t *testing.T) {
	n := newNet(t, 2)
	isErr(t, n.Send(0, 1, []byte("a")), api.OK)
	isErr(t, n.Send(1, 0, []byte("b")), api.OK)
	isErr(t, n.Inject(40, 0, []byte("c")), api.ErrLossyFull)
	isNumber(t, n.Count().Lost, 1)
	isDeliver(t, n, 1, false, docDatagram{1, 0, "b"}, api.OK)
	isErr(t, n.Inject(40, 0, []byte("c")), api.OK)
	isLook(t, n, 0, docDatagram{0, 1, "a"}, api.OK)
	isLook(t, n, 1, docDatagram{40, 0, "c"}, api.OK)
	isNumber(t, n.Len(), 2)

	n = newNet(t, 9)
	isErr(t, n.Block(0, 1), api.OK)
	isErr(t, n.Send(40, 0, []byte("x")), api.ErrLossySource)
	isErr(t, n.Inject(32, 0, []byte("x")), api.ErrLossySource)
	isErr(t, n.Send(33, 0, nil), api.ErrLossySource)
	isErr(t, n.Send(0, 1, nil), api.ErrLossyLong)
	isErr(t, n.Send(1, 0, nil), api.ErrLossyLong)
	isCount(t, n, api.NetCount{})
}

func TestP5_4DeliverEachPlace(t *testing.T) {
	for i := range 5 {
		n := line(t, "abcde")
		want := docDatagram{i, i + 1, "abcde"[i : i+1]}
		isDeliver(t, n, i, true, want, api.OK)
		isDeliver(t, n, i, true, want, api.OK)
		isData(t, n, "abcde")
		isCount(t, n, api.NetCount{Sent: 5, Delivered: 2, Copied: 2})
		isDeliver(t, n, i, false, want, api.OK)
		isData(t, n, "abcde"[:i]+"abcde"[i+1:])
		isCount(t, n, api.NetCount{Sent: 5, Delivered: 3, Copied: 2})
	}
}

func TestP5_4DeliverToTheEnd(t *testing.T) {
	n := line(t, "abc")
	isDeliver(t, n, 1, false, docDatagram{1, 2, "b"}, api.OK)
	isDeliver(t, n, 1, false, docDatagram{2, 3, "c"}, api.OK)
	isDeliver(t, n, 1, false, docDatagram{}, api.ErrLossyIndex)
	isDeliver(t, n, 0, false, docDatagram{0, 1, "a"}, api.OK)
	isDeliver(t, n, 0, false, docDatagram{}, api.ErrLossyIndex)
	isDeliver(t, n, 0, true, docDatagram{}, api.ErrLossyIndex)
	isCount(t, n, api.NetCount{Sent: 3, Delivered: 3})
}

func TestP5_4DeliverRefuses(t *testing.T) {
	n := line(t, "abc")
	isErr(t, n.Block(1, 2), api.OK)
	for _, keep := range []bool{true, false} {
		for _, i := range append(noPlaces, 3) {
			isDeliver(t, n, i, keep, docDatagram{}, api.ErrLossyIndex)
		}
		isDeliver(t, n, 1, keep, docDatagram{}, api.ErrLossyBarred)
	}
	isData(t, n, "abc")
	isCount(t, n, api.NetCount{Sent: 3})
	isErr(t, n.Block(2, 1), api.OK)
	isDeliver(t, n, 0, false, docDatagram{0, 1, "a"}, api.OK)
	isDeliver(t, n, 0, false, docDatagram{}, api.ErrLossyBarred)
	isDeliver(t, n, 1, false, docDatagram{2, 3, "c"}, api.OK)
	isNumber(t, n.Heal(1, 2), 1)
	isDeliver(t, n, 0, false, docDatagram{1, 2, "b"}, api.OK)
}

func TestP5_5Look(t *testing.T) {
	n := line(t, "abc")
	isErr(t, n.Block(1, 2), api.OK)
	for range 2 {
		for i := range 3 {
			isLook(t, n, i, docDatagram{i, i + 1, "abc"[i : i+1]}, api.OK)
		}
		for _, i := range append(noPlaces, 3) {
			isLook(t, n, i, docDatagram{}, api.ErrLossyIndex)
		}
	}
	isLook(t, newNet(t, 1), 0, docDatagram{}, api.ErrLossyIndex)
	isData(t, n, "abc")
	isCount(t, n, api.NetCount{Sent: 3})
}

func TestP5_11TellingChangesNothing(t *testing.T) {
	n := line(t, "abc")
	isErr(t, n.Block(9, 9), api.OK)
	isErr(t, n.Block(9, 2), api.OK)
	want := docNet{list: []docDatagram{{0, 1, "a"}, {1, 2, "b"}, {2, 3, "c"}}, count: api.NetCount{Sent: 3}}
	want.blocked[9][9], want.blocked[9][2] = true, true
	for range 5 {
		isNet(t, n, &want)
	}
	if len(newNet(t, 1).List()) != 0 || len(newNet(t, 1).Blocked()) != 0 {
		t.Error("an empty network tells datagrams or links")
	}
}

func TestP5_12HandedInIsNeitherChangedNorKept(t *testing.T) {
	n := newNet(t, 4)
	for i, lay := range []func(api.Addr, []byte) api.Errno{
		func(to api.Addr, b []byte) api.Errno { return n.Send(0, to, b) },
		func(to api.Addr, b []byte) api.Errno { return n.Inject(40, to, b) },
	} {
		room := []byte("bytes and spare room")
		isErr(t, lay(api.Addr(i), room[:5]), api.OK)
		if string(room) != "bytes and spare room" {
			t.Errorf("what was handed in is now %q", room)
		}
		spoil(room)
		d, _ := n.Look(i)
		if string(d.Data) != "bytes" || !apart(room, d.Data) {
			t.Errorf("the datagram at %d is %q", i, d.Data)
		}
	}
	at := []int{1, 0, 1}
	isDrop(t, n, at, 2, api.OK)
	if at[0] != 1 || at[1] != 0 || at[2] != 1 {
		t.Errorf("Drop made %v of its places", at)
	}
}

func TestP5_12AnswersShareNothing(t *testing.T) {
	n := newNet(t, 8)
	for _, s := range []string{"a", "bcd", string(long(1024))} {
		isErr(t, n.Send(0, 1, []byte(s)), api.OK)
	}
	var answers [][]byte
	for i := range 3 {
		looked, _ := n.Look(i)
		kept, _ := n.Deliver(i, true)
		answers = append(answers, looked.Data, kept.Data)
	}
	first, second := n.List(), n.List()
	for _, d := range append(first, second...) {
		answers = append(answers, d.Data)
	}
	out, _ := n.Deliver(1, false)
	answers = append(answers, out.Data)
	if !apart(answers...) {
		t.Error("two answers share memory")
	}
	for _, b := range answers {
		spoil(b)
	}
	clear(first)
	clear(second)
	isData(t, n, "a"+string(long(1024)))
}

func TestP5_12EachCopyHasTheBytes(t *testing.T) {
	n := newNet(t, 1)
	data := make([]byte, 256)
	for i := range data {
		data[i] = byte(i)
	}
	isErr(t, n.Send(3, 4, data), api.OK)
	for i := range 20 {
		d, e := n.Deliver(0, i < 19)
		if e != api.OK || !bytes.Equal(d.Data, data) {
			t.Fatalf("copy %d: % x, %d", i, d.Data, e)
		}
		spoil(d.Data)
	}
	isCount(t, n, api.NetCount{Sent: 1, Delivered: 20, Copied: 19})
}
