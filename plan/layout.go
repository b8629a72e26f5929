package plan

import (
	"sort"

	"shard/api"
	"shard/ranges"
)

// stretch is a segment with the keys in it.
type stretch struct {
	api.Segment
	keys []uint64
}

// layOut tells the stretches of a layout, rising, no two neighbours of one owner.
func layOut(hosts int, segs []api.Segment, keys []uint64) ([]stretch, api.Errno) {
	table, e := ranges.Load(segs, api.MaxSegments)
	if e != api.OK || !rise(keys) {
		return nil, api.ErrLayout
	}
	var out []stretch
	for s := range table.All() {
		if int(s.Host) >= hosts {
			return nil, api.ErrLayout
		}
		within := sort.Search(len(keys), func(i int) bool { return keys[i] > s.Hi })
		out = append(out, stretch{s, keys[:within]})
		keys = keys[within:]
	}
	return out, api.OK
}

// rise tells whether each key is above the one ahead of it.
func rise(keys []uint64) bool {
	for i := 1; i < len(keys); i++ {
		if keys[i] <= keys[i-1] {
			return false
		}
	}
	return true
}

func loadsOf(hosts int, stretches []stretch) []int {
	loads := make([]int, hosts)
	for _, s := range stretches {
		loads[s.Host] += len(s.keys)
	}
	return loads
}

// piles tells for each host its stretches that have a key, the highest one last.
func piles(hosts int, stretches []stretch) [][]stretch {
	out := make([][]stretch, hosts)
	for _, s := range stretches {
		if len(s.keys) > 0 {
			out[s.Host] = append(out[s.Host], s)
		}
	}
	return out
}
