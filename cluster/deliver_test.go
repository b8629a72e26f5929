package cluster_test

import (
	"testing"

	"shard/api"
	"shard/cluster"
)

// The chapter's examples 1 to 7, one behind the other.
func TestP17_6Examples(t *testing.T) {
	k := newCluster(t, config())
	first := api.Message{Kind: api.KSet, Seq: 1, Key: 5, Value: []byte("v")}
	reply := api.Message{Kind: api.KReply, Seq: 1, Of: api.KSet, Status: api.StOK}
	plays(t, k, begin(16, set(5, "v")), api.OK, 1, invoked(0, 16, 1, set(5, "v")))
	isNet(t, k, letter{16, 0, 1, first})
	plays(t, k, double(0), api.OK, 1)
	isNet(t, k, letter{16, 0, 1, first}, letter{0, 16, 1 << 40, reply})
	h := k.Picture().Hosts[0]
	isSame(t, "host 0", []any{h.Pairs, h.Free, h.Sessions}, []any{[]api.Pair{pair(5, "v")}, 3, []api.Session{{Client: 16, Seq: 1, Status: api.StOK}}})
	plays(t, k, deliver(1), api.OK, 0, returned(2, 16, api.Outcome{Seq: 1, Status: api.StOK, Sent: 1}))
	plays(t, k, shard(0, 1, 0, 9, 0, 0), api.OK, 1, asked(3, 1, shard(0, 1, 0, 9, 0, 0)))
	plays(t, k, deliver(1), api.OK, 2)
	p := k.Picture()
	isSame(t, "host 0", []any{p.Hosts[0].Table, p.Hosts[0].Pairs, p.Hosts[0].Free, p.Hosts[0].Spare}, []any{[]api.Segment{seg(0, 9, 1), seg(10, top, 0)}, nil0, 3, 1})
	isSame(t, "host 1", p.Hosts[1].Table, []api.Segment{seg(0, top, 0)})
	isSame(t, "who is to be told", links(k), []api.Link{{From: 16, To: 0}, {From: 0, To: 1}, {From: 0, To: 32}})
	plays(t, k, deliver(1), api.OK, 1)
	h = k.Picture().Hosts[1]
	isSame(t, "host 1", []any{h.Table, h.Pairs, h.Free, h.Spare}, []any{[]api.Segment{seg(0, 9, 1), seg(10, top, 0)}, []api.Pair{pair(5, "v")}, 4, 5})
	plays(t, k, deliver(1), api.OK, 0, heard(6, 1, 0, api.StOK))
	plays(t, k, deliver(1), api.OK, 0) // the Ack
	plays(t, k, double(0), api.OK, 1)  // the Set once more, at host 0: a Redirect
	plays(t, k, deliver(1), api.ErrStray, 0)
	plays(t, k, drop(0), api.OK, 0)
	plays(t, k, begin(16, get(5)), api.OK, 1, invoked(11, 16, 2, get(5)))
	plays(t, k, deliver(0), api.OK, 1)
	isNet(t, k, letter{0, 16, 1<<40 + 4, api.Message{Kind: api.KRedirect, Seq: 2, Hi: 9, Host: 1}})
	plays(t, k, deliver(0), api.OK, 1)
	plays(t, k, deliver(0), api.OK, 1)
	plays(t, k, deliver(0), api.OK, 0, returned(15, 16, api.Outcome{Seq: 2, Status: api.StOK, Value: []byte("v"), Host: 1, Sent: 2, Hops: 1}))
}

// The set that is delivered at its key's new host is answered from the session.
func TestP17_6Example7(t *testing.T) {
	k := newCluster(t, config())
	does(t, k, begin(16, set(5, "v")), block(0, 16), deliver(0), shard(0, 1, 0, 9, 0, 0), deliver(0), deliver(0), deliver(1), drop(0))
	for range 4 {
		does(t, k, on(api.STick, 16)) // the third try goes to host 1
	}
	does(t, k, drop(0))
	before := shown(k.Picture())
	plays(t, k, deliver(0), api.OK, 1)
	if shown(k.Picture()) != before {
		t.Errorf("it was executed twice: %s", brief(k.Picture()))
	}
	plays(t, k, deliver(0), api.OK, 0, returned(14, 16, api.Outcome{Seq: 1, Status: api.StOK, Host: 1, Sent: 3}))
}

func TestP17_6NoSuchPlace(t *testing.T) {
	k := newCluster(t, config())
	does(t, k, begin(16, get(5)))
	for _, n := range []int{-1, 1, 99, -1 << 63, 1<<63 - 1} {
		refuses(t, k, deliver(n), api.ErrLossyIndex)
		refuses(t, k, double(n), api.ErrLossyIndex)
	}
	does(t, k, block(16, 0))
	refuses(t, k, deliver(0), api.ErrLossyBarred)
	refuses(t, k, double(0), api.ErrLossyBarred)
	does(t, k, heal(16, 0), deliver(0))
}

// What comes to a host that is down is gone, but for a copy that stays.
func TestP17_6Down(t *testing.T) {
	k := newCluster(t, config())
	does(t, k, begin(16, set(5, "v")), crash(0, 0))
	plays(t, k, double(0), api.ErrDown, 0)
	plays(t, k, double(0), api.ErrDown, 0)
	isSame(t, "Count", k.Count(), api.NetCount{Sent: 1, Delivered: 2, Copied: 2})
	plays(t, k, deliver(0), api.ErrDown, 0)
	isSame(t, "the network", []any{len(k.Net()), k.Count()}, []any{0, api.NetCount{Sent: 1, Delivered: 3, Copied: 2}})
	does(t, k, on(api.SRestart, 0))
	plays(t, k, deliver(0), api.ErrLossyIndex, 0)
}

// A datagram to an address at which nobody is, is gone.
func TestP17_6Nobody(t *testing.T) {
	k := newCluster(t, config())
	fine := partsOf(api.Message{Kind: api.KGet, Seq: 1, Key: 5}, 1, 256)[0]
	for _, to := range []api.Addr{2, 3, 15, 17, 31, 33, 40, 254, 255} {
		does(t, k, inject(40, to, fine))
		plays(t, k, double(0), api.ErrDown, 0)
		plays(t, k, deliver(0), api.ErrDown, 0)
		if len(k.Net()) > 0 {
			t.Errorf("it is still there: %v", links(k))
		}
	}
}

// faulty are datagrams, and what is said of them when they come from outside, first to a host, then to a client, then to the admin.
func faulty() []struct {
	from api.Addr
	data []byte
	errs [3]api.Errno
} {
	all := func(e api.Errno) [3]api.Errno { return [3]api.Errno{e, e, e} }
	sum := partsOf(api.Message{Kind: api.KGet, Seq: 1, Key: 5}, 1, 256)[0]
	sum[20] ^= 1
	packet := packetOf(api.Message{Kind: api.KAck, Seq: 1})
	packet[0]++
	two := partsOf(api.Message{Kind: api.KSet, Seq: 1, Value: []byte(long(64))}, 7, 64)
	other := partsOf(api.Message{Kind: api.KSet, Seq: 1, Value: []byte(long(63))}, 7, 64)
	foreign := [3]api.Errno{api.ErrFrom, api.ErrStray, api.ErrFrom}
	list := []struct {
		from api.Addr
		data []byte
		errs [3]api.Errno
	}{
		{40, []byte("xyz"), all(api.ErrFrag)}, {40, make([]byte, 1024), all(api.ErrFrag)}, {40, sum, all(api.ErrFragSum)},
		{255, two[0], all(api.ErrFragFrom)}, {255, []byte("x"), all(api.ErrFragFrom)},
		{40, split(packet, 1, 256)[0], all(api.ErrMagic)}, {40, split([]byte{83, 1}, 1, 256)[0], all(api.ErrShape)},
		{40, two[0], all(api.OK)}, {40, two[0], all(api.OK)}, {40, other[1], all(api.ErrClash)}, {41, two[1], all(api.OK)}, {40, two[1], foreign},
	}
	for _, m := range []api.Message{
		{Kind: api.KGet, Seq: 1, Key: 5}, {Kind: api.KReply, Seq: 1, Of: api.KGet, Status: api.StMissing}, {Kind: api.KRedirect, Seq: 1, Hi: top, Host: 1},
		{Kind: api.KDone, Seq: 1, Status: api.StOK}, {Kind: api.KShard, Seq: 1, Hi: 9, Host: 1}, {Kind: api.KAck}, {Kind: api.KData, Seq: 1, Payload: []byte("x")}, {Kind: api.KDelegate, Hi: 9},
	} {
		list = append(list, struct {
			from api.Addr
			data []byte
			errs [3]api.Errno
		}{33, partsOf(m, 1, 256)[0], foreign})
	}
	return list
}

// W8: strangers change nothing and make nobody send.
func TestP17_6Strangers(t *testing.T) {
	c := config()
	c.Group = 9
	k := newCluster(t, c)
	// Nothing of what waits for a sync may leave by it.
	does(t, k, begin(16, set(5, "v")), deliver(0), shard(0, 1, 0, 9, 0, 0), deliver(0))
	before := shown([]any{k.Picture(), k.Durable(), k.Events()})
	for i, f := range faulty() {
		for j, to := range []api.Addr{0, 16, 32} {
			does(t, k, inject(f.from, to, f.data))
			if a := k.Step(deliver(0)); a.Err != f.errs[j] || a.Sent != 0 || len(a.Events) != 0 {
				t.Errorf("number %d to %d: %+v; want %d", i, to, a, f.errs[j])
			}
		}
	}
	if after := shown([]any{k.Picture(), k.Durable(), k.Events()}); after != before {
		t.Errorf("%s; want %s", brief(after), brief(before))
	}
	o, _ := k.Client(16)
	isSame(t, "the client", o, api.Outcome{Phase: api.PhWaiting, Seq: 1, Sent: 1})
}

// A client's answer makes one event, however often it comes.
func TestP17_6Return(t *testing.T) {
	k := newCluster(t, config())
	does(t, k, begin(16, set(5, "v")), deliver(0))
	plays(t, k, double(0), api.OK, 0, returned(2, 16, api.Outcome{Seq: 1, Status: api.StOK, Sent: 1}))
	plays(t, k, double(0), api.ErrStray, 0)
	does(t, k, begin(16, scan(5, 9, 3)), deliver(1))
	plays(t, k, double(0), api.ErrStray, 0)
	plays(t, k, deliver(1), api.OK, 0, returned(7, 16, api.Outcome{Seq: 2, Status: api.StOK, Sent: 1, Hi: 9, Pairs: []api.Pair{pair(5, "v")}}))
	plays(t, k, deliver(0), api.ErrStray, 0)
}

// A reply in fragments: nothing comes of it but with the last one.
func TestP17_6Fragments(t *testing.T) {
	want := api.Outcome{Seq: 1, Status: api.StOK, Value: []byte(long(64)), Sent: 1}
	k := torn(t)
	plays(t, k, double(1), api.OK, 0)
	plays(t, k, double(1), api.OK, 0)
	plays(t, k, double(0), api.OK, 0, returned(8, 16, want))
	plays(t, k, double(0), api.OK, 0)
	plays(t, k, double(1), api.ErrStray, 0)
	// To each receiver by itself: the other client has no part of it.
	k = torn(t)
	does(t, k, begin(17, get(5)), on(api.SSync, 0))
	plays(t, k, deliver(2), api.OK, 2)
	isSame(t, "both replies", links(k), []api.Link{{From: 0, To: 16}, {From: 0, To: 16}, {From: 0, To: 17}, {From: 0, To: 17}})
	plays(t, k, deliver(0), api.OK, 0)
	plays(t, k, deliver(2), api.OK, 0)
	plays(t, k, deliver(0), api.OK, 0, returned(11, 16, want))
}

// handed gives a cluster whose admin has a Done coming, at place 0.
func handed(t *testing.T) *cluster.Cluster {
	t.Helper()
	k := newCluster(t, config())
	does(t, k, shard(1, 0, 0, 9, 0, 0), deliver(0))
	isSame(t, "the Done", links(k), []api.Link{{From: 1, To: 32}})
	return k
}

// Each Done that comes makes an event, doubles too, and also of a Shard that nobody sent.
func TestP17_6Done(t *testing.T) {
	k := handed(t)
	for i := range 3 {
		plays(t, k, double(0), api.OK, 0, heard(i+2, 1, 1, api.StNotOwner))
	}
	does(t, k, shard(0, 0, 0, 9, 0, 0), deliver(1))
	plays(t, k, deliver(1), api.OK, 0, heard(7, 2, 0, api.StSelf))
	plays(t, k, deliver(0), api.OK, 0, heard(8, 1, 1, api.StNotOwner))
}

// The admin never ticks: what it has of a packet stays.
func TestP17_6AdminJoins(t *testing.T) {
	k := newCluster(t, config())
	two := partsOf(api.Message{Kind: api.KSet, Seq: 1, Value: []byte(long(64))}, 7, 64)
	does(t, k, inject(40, 32, two[0]), deliver(0))
	for range 20 {
		plays(t, k, on(api.STick, 32), api.ErrStep, 0)
		does(t, k, on(api.STick, 16), on(api.STick, 0), settle(1, 0))
	}
	does(t, k, inject(40, 32, two[1]))
	plays(t, k, deliver(0), api.ErrFrom, 0)
}

// A client and the admin keep parts of 16 packets of one source, each by itself.
func TestP17_6Slots(t *testing.T) {
	for _, to := range []api.Addr{16, 32} {
		for _, more := range []uint64{15, 16} {
			k := newCluster(t, config())
			m := api.Message{Kind: api.KSet, Seq: 1, Value: []byte(long(64))}
			for id := range more + 1 {
				does(t, k, inject(40, to, partsOf(m, id, 64)[0]), deliver(0))
			}
			// The first one's other part comes last: by then its slot has gone, if it was one too many.
			does(t, k, inject(40, to, partsOf(m, 0, 64)[1]))
			if a := k.Step(deliver(0)); (a.Err == api.OK) != (more == 16) {
				t.Errorf("to %d, behind %d others: %+v", to, more, a)
			}
		}
	}
}
