package cluster_test

import (
	"testing"

	"shard/api"
)

func TestP17_5Refused(t *testing.T) {
	k := newCluster(t, config())
	for _, a := range []api.Addr{2, 15, 16, 32, 33, 255} {
		refuses(t, k, shard(a, 1, 0, 9, 0, 0), api.ErrStep)
	}
	for _, n := range []int{-1, 65536, 1 << 32, -1 << 63, 1<<63 - 1} {
		refuses(t, k, shard(0, 1, 0, 9, n, 0), api.ErrStep)
		refuses(t, k, shard(0, 1, 0, 9, 0, n), api.ErrStep)
		refuses(t, k, shard(0, 99, 9, 0, 0, n), api.ErrStep)
	}
	refuses(t, k, shard(0, 1, 9, 8, 0, 0), api.ErrField)
	refuses(t, k, shard(0, 1, top, 0, 0, 0), api.ErrField)
	for _, b := range []api.Addr{16, 32, 255} {
		refuses(t, k, shard(0, b, 0, 9, 0, 0), api.ErrField)
	}
	// None of these has used up a number.
	s := shard(1, 15, 7, 7, 65535, 65535)
	a := k.Step(s)
	if a.Err != api.OK || len(a.Events) != 1 || a.Events[0].Seq != 1 {
		t.Fatalf("%+v", a)
	}
	isNet(t, k, letter{api.Admin, 1, 1, a.Events[0].Shard})
}

func TestP17_5Numbers(t *testing.T) {
	k := newCluster(t, config())
	steps := []api.Step{shard(0, 1, 0, top, 65535, 0), shard(1, 1, top, top, 0, 65535), shard(1, 15, 0, 0, 3, 4)}
	var sent []letter
	for i, s := range steps {
		e := asked(2*i, uint64(i+1), s)
		plays(t, k, s, api.OK, 1, e)
		plays(t, k, shard(0, 1, 1, 0, 0, 0), api.ErrField, 0)
		sent = append(sent, letter{api.Admin, s.A, uint64(i + 1), e.Shard})
	}
	isNet(t, k, sent...)
	// The event comes about though nothing can be sent.
	does(t, k, block(api.Admin, 0))
	plays(t, k, steps[0], api.OK, 0, asked(7, 4, steps[0]))
	plays(t, k, steps[1], api.OK, 1, asked(8, 5, steps[1]))
}

// The statuses of Shards come back to the admin.
func TestP17_5Statuses(t *testing.T) {
	k := newCluster(t, wide())
	for i, x := range []struct {
		s      api.Step
		status api.Status
	}{
		{shard(0, 3, 0, 9, 0, 0), api.StNoHost}, {shard(0, 0, 0, 9, 0, 0), api.StSelf}, {shard(1, 0, 0, 9, 0, 0), api.StNotOwner},
		{shard(0, 1, 0, 9, 101, 0), api.StNoCredit}, {shard(0, 1, 0, 9, 0, 48), api.StNoBound}, {shard(0, 1, 0, 9, 0, 0), api.StOK},
	} {
		does(t, k, x.s)
		k.Step(deliver(0))
		list := letters(k.Net())
		done := list[len(list)-1]
		isSame(t, "the Done", done.m, api.Message{Kind: api.KDone, Seq: uint64(i + 1), Status: x.status})
		plays(t, k, deliver(len(list)-1), api.OK, 0, heard(3*i+2, uint64(i+1), x.s.A, x.status))
	}
}
