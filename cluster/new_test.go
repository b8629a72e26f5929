package cluster_test

import (
	"testing"

	"shard/api"
	"shard/cluster"
)

// A configuration has bounds, field by field.
func TestP17_1Configs(t *testing.T) {
	fields := []struct {
		of          func(*api.Config) *int
		least, most int
	}{
		{func(c *api.Config) *int { return &c.Hosts }, 1, 16}, {func(c *api.Config) *int { return &c.Clients }, 0, 16},
		{func(c *api.Config) *int { return &c.Pairs }, 0, 1024}, {func(c *api.Config) *int { return &c.Bounds }, 0, 256},
		{func(c *api.Config) *int { return &c.Queue }, 1, 16}, {func(c *api.Config) *int { return &c.Window }, 1, 2},
		{func(c *api.Config) *int { return &c.Group }, 1, 64}, {func(c *api.Config) *int { return &c.Keep }, 1, 1024},
		{func(c *api.Config) *int { return &c.MTU }, 64, 1024}, {func(c *api.Config) *int { return &c.Net }, 1, 4096},
		{func(c *api.Config) *int { return &c.Patience }, 1, 64}, {func(c *api.Config) *int { return &c.Tries }, 1, 64},
	}
	for i, f := range fields {
		for _, x := range []int{f.least - 1, f.most + 1, -1 << 63, 1<<63 - 1} {
			c := config()
			*f.of(&c) = x
			if k, e := cluster.New(c); k != nil || e != api.ErrConfig {
				t.Errorf("field %d of %d: %v, %d", i, x, k != nil, e)
			}
		}
		for _, x := range []int{f.least, f.most} {
			c := config()
			*f.of(&c) = x
			k := newCluster(t, c)
			isSame(t, "the configuration", []any{k.Picture().Config, k.Durable().Config}, []any{c, c})
		}
	}
	if k, e := cluster.New(api.Config{}); k != nil || e != api.ErrConfig {
		t.Errorf("no configuration: %v, %d", k != nil, e)
	}
}

// At the start host 0 owns all keys, nothing is on its way, and nothing has happened.
func TestP17_1Start(t *testing.T) {
	for _, hosts := range []int{1, 2, 3, 16} {
		for _, clients := range []int{0, 1, 5, 16} {
			c := config()
			c.Hosts, c.Clients = hosts, clients
			k := newCluster(t, c)
			a := tell(k)
			isSame(t, "what is empty", []any{a.Events, a.Net, a.Count, a.Moves, a.NoPlan}, []any{nil0, nil0, api.NetCount{}, nil0, api.OK})
			isSame(t, "how many", []int{len(a.Infos), len(a.Disks), len(a.Outcomes), len(a.Hints)}, []int{hosts, hosts, clients, clients})
			isSame(t, "Durable", a.Durable, a.Picture)
			for h, s := range a.Picture.Hosts {
				isSame(t, "a host", []any{s.Self, s.Table, s.Pairs, s.Sessions, s.Free, s.Spare, len(s.End.Peers)}, []any{h, []api.Segment{seg(0, top, 0)}, nil0, nil0, 4, 4, hosts})
				isSame(t, "a node", []any{a.Infos[h].Up, a.Infos[h].Epoch, a.Infos[h].Held}, []any{true, 1, 0})
			}
			for i, o := range a.Outcomes {
				isSame(t, "a client", []any{o, a.Hints[i]}, []any{api.Outcome{}, []api.Segment{seg(0, top, 0)}})
			}
		}
	}
}

// nil0 is an empty list in what is compared as texts.
var nil0 []int
