package node

import (
	"bytes"
	"testing"

	"shard/api"
)

// A count beyond 2^40 is not to be reached by sending.
func TestP11_6NumbersWrapRound(t *testing.T) {
	for _, row := range []struct {
		epoch      int
		sent, want uint64
	}{
		{1, 0, 1 << 40}, {1, 1, 1<<40 + 1}, {1, 1<<40 - 1, 1<<41 - 1}, {1, 1 << 40, 1 << 40}, {3, 1<<40 + 5, 3<<40 + 5}, {3, 1<<63 + 7, 3<<40 + 7},
		{api.MaxEpoch, 1<<40 - 1, 1<<64 - 1}, {api.MaxEpoch, 1 << 40, 0xFFFFFF << 40},
	} {
		l := life{content: content{epoch: row.epoch}, sent: row.sent}
		if got := l.number(); got != row.want {
			t.Errorf("epoch %d, packet %d: %d; want %d", row.epoch, row.sent, got, row.want)
		}
	}
}

// What a disk holds is read once: a node that had another's name at the second question would find nothing there.
func TestP11_14DurableIsReadOnce(t *testing.T) {
	n, _ := New(innerConfig(), 0)
	n.Durable()
	n.owner.self = 1
	if len(n.Durable().Table) == 0 {
		t.Errorf("a disk is read twice")
	}
}

// A reading is another one just when the disk is another one.
func TestP11_14EachDiskHasItsReading(t *testing.T) {
	n, _ := New(innerConfig(), 0)
	for i, row := range []struct {
		do      func()
		changes bool
	}{
		{func() { n.Sync() }, false}, {func() { n.Tick() }, false}, {func() { n.Take(16, nil) }, false}, {func() { n.Crash(-1) }, false}, {func() { n.Restart() }, false},
		{func() { n.Crash(9) }, false}, {func() { n.Sync() }, false}, {func() { n.Compact() }, false}, {func() { n.Info() }, false},
		{func() { n.Restart() }, true}, {func() { n.Compact() }, true}, {func() { n.Sync() }, true}, {func() { n.Sync() }, false}, {func() { n.Compact() }, true},
		{func() { n.Crash(0) }, false}, {func() { n.Restart() }, true}, {func() { n.Compact() }, true}, {func() { n.Crash(1) }, true}, {func() { n.Restart() }, true},
	} {
		before, disk := n.durable, n.Disk()
		row.do()
		after := n.Disk()
		if (n.durable != before) != row.changes {
			t.Errorf("row %d: another reading: %v", i, !row.changes)
		}
		if same := bytes.Equal(disk.Slots[0], after.Slots[0]) && bytes.Equal(disk.Slots[1], after.Slots[1]); same == row.changes {
			t.Errorf("row %d: the same disk: %v", i, same)
		}
	}
}

func innerConfig() api.Config {
	return api.Config{Hosts: 2, Clients: 1, Pairs: 4, Bounds: 4, Queue: 2, Window: 1, Group: 8, Keep: 64, MTU: 256, Net: 1, Patience: 1, Tries: 1}
}
