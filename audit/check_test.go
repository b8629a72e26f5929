package audit_test

import (
	"fmt"
	"math"
	"runtime"
	"sync"
	"testing"
	"time"

	"shard/api"
	"shard/audit"
)

func finds(t *testing.T, p api.Picture, want ...api.Finding) {
	t.Helper()
	for _, workers := range someWorkers {
		got, e := audit.Check(p, workers)
		isShown(t, fmt.Sprint("Check with ", workers), got, e, want, api.OK)
	}
	isShown(t, "the chapter's", docCheck(p), api.OK, want, api.OK)
}

// fault gives a finding of a range or of a host.
func fault(kind api.FaultKind, lo, hi uint64, host api.Addr) api.Finding {
	return api.Finding{Kind: kind, Lo: lo, Hi: hi, Host: host}
}

var (
	pairsFault  = fault(api.FaultPairs, 0, 0, api.NoOne)
	boundsFault = fault(api.FaultBounds, 0, 0, api.NoOne)
)

func TestP16_7Digests(t *testing.T) {
	p := started(3)
	p.Hosts[0].Pairs = []api.Pair{pair(1, "a"), pair(9, "b")}
	p.Hosts[2].Pairs = []api.Pair{pair(1, "a")} // a stray counts too
	for _, workers := range someWorkers {
		got, e := audit.Digests(p, workers)
		isShown(t, "Digests", got, e, []uint64{docDigest(p.Hosts[0].Pairs), 0xcbf29ce484222325, docDigest(p.Hosts[2].Pairs)}, api.OK)
	}
	// What is in flights, and all else, does not count.
	q := handed(t)
	got, e := audit.Digests(q, 2)
	isShown(t, "Digests", got, e, []uint64{docDigest(nil), docDigest(nil)}, api.OK)
}

func TestP16_7Workers(t *testing.T) {
	bad := started(2)
	bad.Hosts[0].Self = 1
	numbers := []int{math.MinInt, math.MaxInt, -1 << 32, 1 << 32, 1<<32 + 1, 1 << 40, 256, 257}
	for n := -3; n < 70; n++ {
		numbers = append(numbers, n)
	}
	for _, workers := range numbers {
		fine := workers >= 1 && workers <= 64
		for i, p := range []api.Picture{handed(t), bad, {}} {
			want := api.OK
			if !fine {
				want = api.ErrWorkers
			} else if i > 0 {
				want = api.ErrPicture
			}
			sums, e := audit.Digests(p, workers)
			found, f := audit.Check(p, workers)
			if e != want || f != want || len(found) > 0 || len(sums) > 0 != (want == api.OK) {
				t.Errorf("%d workers, picture %d: %v, %d; %v, %d", workers, i, sums, e, found, f)
			}
		}
	}
}

func TestP16_8Examples(t *testing.T) {
	for hosts := 1; hosts <= 16; hosts++ {
		finds(t, started(hosts))
	}
	finds(t, handed(t))
	finds(t, installed(t))
	p := handed(t)
	p.Hosts[1].Table = []api.Segment{seg(0, 4, 0), seg(5, 9, 1), seg(10, top, 0)}
	finds(t, p, fault(api.FaultTwo, 5, 7, api.NoOne), fault(api.FaultTwo, 8, 9, api.NoOne), boundsFault)
}

func TestP16_8Ranges(t *testing.T) {
	p := started(3)
	p.Hosts[0].Table = []api.Segment{seg(0, top, 1)}
	finds(t, p, fault(api.FaultNone, 0, top, api.NoOne))
	p.Hosts[1].Table = []api.Segment{seg(0, 0, 1), seg(1, 8, 0), seg(9, top, 1)}
	finds(t, p, fault(api.FaultNone, 1, 8, api.NoOne), boundsFault)
	p.Hosts[1].Spare -= 2
	finds(t, p, fault(api.FaultNone, 1, 8, api.NoOne))
	p.Hosts[2].Table = []api.Segment{seg(0, 4, 2), seg(5, top, 1)}
	p.Hosts[2].Spare--
	finds(t, p, fault(api.FaultTwo, 0, 0, api.NoOne), fault(api.FaultNone, 5, 8, api.NoOne))
	p.Hosts[0].Table = []api.Segment{seg(0, top, 0)}
	finds(t, p, fault(api.FaultTwo, 0, 0, api.NoOne), fault(api.FaultTwo, 1, 4, api.NoOne), fault(api.FaultTwo, 9, top, api.NoOne))
}

// Flights claim too: against a host, against each other.
func TestP16_8RangesOfFlights(t *testing.T) {
	p := handed(t)
	queued(&p, 1, 0, 0, packet(t, delegate(7, 8)))
	p.Hosts[1].Spare -= 2
	finds(t, p, fault(api.FaultTwo, 7, 7, api.NoOne), fault(api.FaultTwo, 8, 8, api.NoOne))
	p = handed(t)
	p.Hosts[1].End.Peers[0].Delivered = 1 // it has come, and is nowhere
	finds(t, p, fault(api.FaultNone, 0, 7, api.NoOne), pairsFault, boundsFault)
}

func TestP16_8Strays(t *testing.T) {
	p := handed(t)
	p.Hosts[0].Pairs = []api.Pair{pair(0, ""), pair(7, ""), pair(8, ""), pair(top, "")}
	p.Hosts[1].Pairs = []api.Pair{pair(0, ""), pair(9, ""), pair(top, "")}
	p.Hosts[0].Free, p.Hosts[1].Free = -3, -1
	finds(t, p,
		fault(api.FaultStray, 0, 0, 0), fault(api.FaultStray, 7, 7, 0), fault(api.FaultBelow, 0, 0, 0),
		fault(api.FaultStray, 0, 0, 1), fault(api.FaultStray, 9, 9, 1), fault(api.FaultStray, top, top, 1), fault(api.FaultBelow, 0, 0, 1))
}

func TestP16_8Below(t *testing.T) {
	p := started(3)
	p.Hosts[2].Free, p.Hosts[0].Free = -1, 5
	finds(t, p, fault(api.FaultBelow, 0, 0, 2))
	p.Hosts[1].Spare, p.Hosts[0].Spare = -1, 7
	finds(t, p, fault(api.FaultBelow, 0, 0, 1), fault(api.FaultBelow, 0, 0, 2))
	p.Hosts[2].Spare, p.Hosts[0].Spare = -1, 11 // both: one finding
	finds(t, p, fault(api.FaultBelow, 0, 0, 1), fault(api.FaultBelow, 0, 0, 2))
	p = started(2)
	p.Hosts[0].Free, p.Hosts[1].Free, p.Hosts[0].Spare, p.Hosts[1].Spare = 0, 4, 6, 0 // 0 is not below 0
	finds(t, p)
}

func TestP16_8Sums(t *testing.T) {
	for _, more := range []int{-1, 0, 1, 1 << 30} {
		for _, bounds := range []int{-1, 0, 1, 1 << 30} {
			p := started(2)
			p.Hosts[1].Free += more
			p.Hosts[0].Spare += bounds
			var want []api.Finding
			if more != 0 {
				want = append(want, pairsFault)
			}
			if bounds != 0 {
				want = append(want, boundsFault)
			}
			finds(t, p, want...)
		}
	}
	p := started(2)
	p.Config.Pairs = 3
	finds(t, p, pairsFault)
	p.Config.Bounds = 0
	finds(t, p, pairsFault, boundsFault)
}

func TestP16_8Payloads(t *testing.T) {
	p := handed(t)
	queued(&p, 1, 0, 7, []byte("x"), []byte("y"))
	finds(t, p, fault(api.FaultPayload, 8, 8, 1), fault(api.FaultPayload, 9, 9, 1))
	p.Hosts[0].End.Peers[1].Delivered = 0
	p.Hosts[0].End.Peers[1].Queue = [][]byte{p.Hosts[0].End.Peers[1].Queue[0], []byte("z")}
	p.Hosts[0].End.Peers[1].Sent = 2
	finds(t, p, fault(api.FaultPayload, 2, 2, 0), fault(api.FaultPayload, 8, 8, 1), fault(api.FaultPayload, 9, 9, 1))
	p.Hosts[0].End.Peers[1].Delivered = 8 // what has come is no fault, nor what is early
	p.Hosts[0].End.Peers[1].Early = []api.Frame{{Seq: 10, Payload: []byte("w")}}
	finds(t, p, fault(api.FaultPayload, 2, 2, 0), fault(api.FaultPayload, 9, 9, 1))
	queued(&p, 1, 0, top-1, []byte("x"))
	finds(t, p, fault(api.FaultPayload, 2, 2, 0), fault(api.FaultPayload, top, top, 1))
}

// All kinds at once, in their order.
func TestP16_8Order(t *testing.T) {
	p := started(3)
	p.Hosts[0].Table = []api.Segment{seg(0, 9, 0), seg(10, top, 1)}
	p.Hosts[2].Table = []api.Segment{seg(0, 4, 2), seg(5, top, 0)}
	p.Hosts[0].Pairs = []api.Pair{pair(3, ""), pair(50, "")}
	p.Hosts[2].Pairs = []api.Pair{pair(4, ""), pair(5, "")}
	p.Hosts[0].Spare = -4
	p.Hosts[1].Free = -1
	queued(&p, 2, 1, 4, []byte("x"))
	queued(&p, 0, 1, 9, packet(t, api.Message{Kind: api.KGet, Seq: 1}))
	finds(t, p,
		fault(api.FaultTwo, 0, 4, api.NoOne), fault(api.FaultNone, 10, top, api.NoOne),
		fault(api.FaultStray, 50, 50, 0), fault(api.FaultBelow, 0, 0, 0), fault(api.FaultBelow, 0, 0, 1), fault(api.FaultStray, 5, 5, 2),
		pairsFault, boundsFault,
		fault(api.FaultPayload, 10, 10, 0), fault(api.FaultPayload, 5, 5, 2))
}

// All calls, on pictures of hosts that are at odds.
func TestRandomPictures(t *testing.T) {
	kinds := map[api.FaultKind]int{}
	for seed := range 1500 {
		p := diceOf(seed).picture(t)
		isAsTheChapterSays(t, p)
		found, _ := audit.Check(p, 1)
		for _, f := range found {
			kinds[f.Kind]++
		}
	}
	for kind := api.FaultNone; kind <= api.FaultPayload; kind++ {
		if kinds[kind] < 100 {
			t.Errorf("fault %d came up %d times", kind, kinds[kind])
		}
	}
}

// Pictures of which something was changed: some of them may not be.
func TestRandomSpoiltPictures(t *testing.T) {
	refused := 0
	for seed := range 3000 {
		d := diceOf(seed)
		p := d.picture(t)
		s := &p.Hosts[d.Intn(len(p.Hosts))]
		q := &s.End.Peers[d.Intn(len(s.End.Peers))]
		switch d.Intn(9) {
		case 0:
			s.Self = api.Addr(d.Intn(len(p.Hosts)))
		case 1:
			g := &s.Table[d.Intn(len(s.Table))]
			*g = []api.Segment{seg(d.key(), g.Hi, g.Host), seg(g.Lo, d.key(), g.Host), seg(g.Lo, g.Hi, api.Addr(d.Intn(17)))}[d.Intn(3)]
		case 2:
			s.Pairs = append(s.Pairs, api.Pair{Key: d.key(), Value: make([]byte, 60+d.Intn(8))})
		case 3:
			s.Free = 1<<31 - 2 + d.Intn(4)
		case 4:
			s.Spare = -1<<31 - 2 + d.Intn(4)
		case 5:
			q.Sent, q.Acked = q.Sent+uint64(d.Intn(2)), q.Acked+uint64(d.Intn(2))
		case 6:
			q.Mask, q.Delivered = 1<<d.Intn(5), q.Delivered+uint64(d.Intn(2))
		case 7:
			p.Config.Queue, p.Config.Window = d.Intn(4), d.Intn(4)
		case 8:
			p.Hosts = p.Hosts[:d.Intn(len(p.Hosts)+1)]
		}
		if !docMayBe(p) {
			refused++
		}
		isAsTheChapterSays(t, p)
	}
	if refused < 800 || refused > 2200 {
		t.Errorf("%d of 3000 were refused", refused)
	}
}

// Each number of workers comes to the same, again and again.
func TestP16_10EveryNumberOfWorkers(t *testing.T) {
	for seed := range 20 {
		p := crowded(t, seed)
		want, e := audit.Check(p, 1)
		sums, f := audit.Digests(p, 1)
		for workers := 1; workers <= 64; workers++ {
			for range 3 {
				got, g := audit.Check(p, workers)
				isShown(t, "Check", got, g, want, e)
				again, h := audit.Digests(p, workers)
				isShown(t, "Digests", again, h, sums, f)
			}
		}
		if e != api.OK || f != api.OK || len(sums) != 16 || len(want) < 16 {
			t.Fatalf("%v, %d; %v, %d", want, e, sums, f)
		}
	}
}

// crowded gives a picture of 16 hosts, some with much to look at and some with little.
func crowded(t *testing.T, seed int) api.Picture {
	t.Helper()
	d := diceOf(seed)
	p := started(16)
	for h := range p.Hosts {
		p.Hosts[h].Table = d.table(16)
		p.Hosts[h].Pairs = d.pairs(1 << d.Intn(9))
		p.Hosts[h].Free = d.credits()
	}
	return p
}

// Calls at one time do not disturb each other.
func TestP16_10SeveralAtOnce(t *testing.T) {
	p := crowded(t, 3)
	want, _ := audit.Check(p, 1)
	sums, _ := audit.Digests(p, 1)
	var all sync.WaitGroup
	for workers := 1; workers <= 16; workers++ {
		all.Add(1)
		go func() {
			defer all.Done()
			got, e := audit.Check(p, workers)
			again, f := audit.Digests(p, workers)
			if shown(got) != shown(want) || shown(again) != shown(sums) || e != api.OK || f != api.OK {
				t.Errorf("%d workers: %v, %d; %v, %d", workers, got, e, again, f)
			}
		}()
	}
	all.Wait()
}

// No goroutine is left behind, whatever is answered. One that has said that it is done may take a moment to go.
func TestP16_10AllWorkersEnd(t *testing.T) {
	first := runtime.NumGoroutine()
	for seed := range 100 {
		p := crowded(t, seed)
		audit.Check(p, 64)
		audit.Digests(p, 64)
		p.Hosts[7].Self = 9
		audit.Check(p, 64)
		audit.Digests(p, 64)
	}
	for range 1000 {
		if runtime.NumGoroutine() <= first {
			return
		}
		time.Sleep(10 * time.Millisecond)
	}
	t.Errorf("%d goroutines, of which %d were there", runtime.NumGoroutine(), first)
}
