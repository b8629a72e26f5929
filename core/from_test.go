package core_test

import (
	"testing"

	"shard/api"
	"shard/core"
)

// oneOfEach gives a message of each kind that Check allows, and some that it does not.
func oneOfEach() []api.Message {
	return []api.Message{
		get(1, 5), set(1, 5, "v"), del(1, 5), cas(1, 5, "a", "b"), fill(1, 5, "b"), scan(1, 0, 9, 3),
		reply(get(1, 5), api.StMissing), redirect(1, seg(0, 9, 1)), shard(0, 9, 1, 0, 0), done(1, api.StOK),
		data(1, plain(0, 9)), ack(0, 0), {Kind: api.KDelegate, Hi: 9}, {}, {Kind: 13}, {Kind: 255},
	}
}

func TestP10_3From(t *testing.T) {
	for _, c := range []struct{ hosts, clients, self int }{{1, 0, 0}, {2, 2, 0}, {3, 1, 2}, {16, 16, 7}} {
		for _, m := range oneOfEach() {
			for from := range 256 {
				k := small()
				k.Hosts, k.Clients = c.hosts, c.clients
				n := newCore(t, k, api.Addr(c.self))
				d := newDoc(k, api.Addr(c.self))
				got, did, e := n.Apply(api.Addr(from), m)
				want, changed, we := d.apply(api.Addr(from), m)
				if shown(got) != shown(want) || did != changed || e != we {
					t.Errorf("%+v: Apply(%d, %s): %s, %v, %d; want %s, %v, %d", c, from, brief(m), brief(got), did, e, brief(want), changed, we)
				}
			}
		}
	}
}

func TestP10_3Rows(t *testing.T) {
	n := newCore(t, small(), 0)
	for _, row := range []struct {
		from api.Addr
		m    api.Message
		want api.Errno
	}{
		{17, get(1, 5), api.OK}, {18, get(1, 5), api.ErrFrom}, {31, get(1, 5), api.ErrFrom},
		{1, ack(0, 0), api.OK}, {2, ack(0, 0), api.ErrFrom}, {15, ack(0, 0), api.ErrFrom}, {0, ack(0, 0), api.ErrFrom},
		{32, shard(0, 9, 0, 0, 0), api.OK}, {33, shard(0, 9, 0, 0, 0), api.ErrFrom}, {16, shard(0, 9, 0, 0, 0), api.ErrFrom}, {1, shard(0, 9, 0, 0, 0), api.ErrFrom},
		{1, api.Message{Kind: api.KDelegate, Hi: 9}, api.ErrFrom}, {16, reply(get(1, 5), api.StOK), api.ErrFrom}, {255, api.Message{Kind: 255}, api.ErrFrom},
	} {
		if row.want != api.OK {
			isRefused(t, n, row.from, row.m, row.want)
		} else {
			must(t, n, row.from, row.m)
		}
	}
}

func TestP10_3FirstOfSeveral(t *testing.T) {
	var none *core.Core
	if got, did, e := none.Apply(99, api.Message{Kind: 77}); len(got) != 0 || did || e != api.ErrNil {
		t.Errorf("a nil core: %v, %v, %d", got, did, e)
	}
	n := newCore(t, small(), 0)
	long := string(make([]byte, 65))
	for _, row := range []struct {
		from api.Addr
		m    api.Message
		want api.Errno
	}{
		{18, set(0, 5, long), api.ErrFrom},
		{16, set(0, 5, long), api.ErrField},
		{16, set(1, 5, long), api.ErrField},
		{16, api.Message{Kind: api.KGet, Seq: 1, Hi: 1}, api.ErrField},
		{16, scan(1, 9, 8, 1), api.ErrField}, {16, scan(1, 8, 9, 0), api.ErrField}, {16, scan(1, 8, 9, 17), api.ErrField},
		{16, api.Message{Kind: api.KCas, Seq: 1, Old: []byte("x")}, api.ErrField},
		{32, shard(9, 8, 1, 0, 0), api.ErrField}, {32, shard(8, 9, 16, 0, 0), api.ErrField}, {32, shard(8, 9, 1, 65536, 0), api.ErrField}, {32, shard(8, 9, 1, 0, 65536), api.ErrField},
		{32, api.Message{Kind: api.KShard, Hi: 9, Host: 1}, api.ErrField},
		{2, data(0, nil), api.ErrFrom}, {1, data(0, nil), api.ErrField}, {1, data(0, plain(0, 9)), api.ErrField}, {1, data(1, make([]byte, 3073)), api.ErrField},
		{1, data(99, []byte("no delegation")), api.ErrPayload},
		{1, data(99, plain(0, 9)), api.ErrXonceFar},
		{1, api.Message{Kind: api.KAck, Seq: 9, Key: 1}, api.ErrField}, {1, ack(9, 0), api.ErrXonceAck},
	} {
		isRefused(t, n, row.from, row.m, row.want)
	}
	isState(t, n, start(small(), 0))
}
