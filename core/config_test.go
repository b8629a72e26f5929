package core_test

import (
	"math"
	"testing"

	"shard/api"
	"shard/core"
)

// fieldsOf gives each field of a configuration with its bounds; Window's upper one is the Queue.
func fieldsOf(c *api.Config) []struct {
	field       *int
	least, most int
} {
	return []struct {
		field       *int
		least, most int
	}{
		{&c.Hosts, 1, 16}, {&c.Clients, 0, 16}, {&c.Pairs, 0, 1024}, {&c.Bounds, 0, 256}, {&c.Queue, 1, 16}, {&c.Window, 1, c.Queue},
		{&c.Group, 1, 64}, {&c.Keep, 1, 1024}, {&c.MTU, 64, 1024}, {&c.Net, 1, 4096}, {&c.Patience, 1, 64}, {&c.Tries, 1, 64},
	}
}

func TestP10_1Bounds(t *testing.T) {
	base := small()
	for i := range fieldsOf(&base) {
		for j := range 8 {
			c := small()
			c.Queue, c.Window = 9, 1
			f := fieldsOf(&c)[i]
			value := []int{f.least, f.most, f.least - 1, f.most + 1, math.MinInt, math.MaxInt, -1, 0}[j]
			*f.field = value
			want := docCheckConfig(c)
			if got := core.CheckConfig(c); got != want {
				t.Errorf("CheckConfig(%+v): %d; want %d", c, got, want)
			}
			n, e := core.New(c, 0)
			if (n != nil) != (want == api.OK) || e != want {
				t.Errorf("New(%+v, 0): %d; want %d", c, e, want)
			}
			if j < 2 && want != api.OK || (j == 2 || j == 3) && want == api.OK {
				t.Errorf("field %d, row %d: the bounds themselves are wrong", i, j)
			}
		}
	}
	isErr(t, core.CheckConfig(api.Config{}), api.ErrConfig)
}

func TestP10_1WindowAndQueue(t *testing.T) {
	for queue := -1; queue <= 18; queue++ {
		for window := -1; window <= 18; window++ {
			c := small()
			c.Queue, c.Window = queue, window
			if got, want := core.CheckConfig(c), docCheckConfig(c); got != want {
				t.Errorf("Queue %d, Window %d: %d; want %d", queue, window, got, want)
			}
		}
	}
}

func TestP10_2New(t *testing.T) {
	for _, hosts := range []int{1, 2, 16} {
		for self := range api.Addr(255) {
			c := small()
			c.Hosts, c.Pairs, c.Bounds = hosts, 7, 9
			n, e := core.New(c, self)
			if int(self) >= hosts {
				if n != nil || e != api.ErrConfig {
					t.Errorf("New of %d hosts, %d: %d", hosts, self, e)
				}
				continue
			}
			if n == nil || e != api.OK {
				t.Fatalf("New of %d hosts, %d: %d", hosts, self, e)
			}
			isState(t, n, start(c, self))
		}
	}
	c := small()
	c.Hosts = 0
	if n, e := core.New(c, 255); n != nil || e != api.ErrConfig {
		t.Errorf("New without hosts: %d", e)
	}
}

func TestP10_2Limits(t *testing.T) {
	c := small()
	c.Pairs, c.Bounds = 1024, 256
	n := newCore(t, c, 0)
	for i := range uint64(1024) {
		isTold(t, n, 16, set(i+1, i*3, "v"), api.StOK, true)
	}
	isTold(t, n, 16, set(1025, 5000, "v"), api.StNoCredit, true)
	if s := n.State(); s.Free != 0 || len(s.Pairs) != 1024 {
		t.Errorf("free %d, pairs %d", s.Free, len(s.Pairs))
	}
}
