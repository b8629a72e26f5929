package cluster_test

import (
	"reflect"
	"runtime"
	"slices"
	"testing"

	"shard/api"
	"shard/cluster"
)

func TestR1Nil(t *testing.T) {
	var none *cluster.Cluster
	for kind := range 256 {
		isSame(t, "Step", none.Step(api.Step{Kind: api.StepKind(kind), A: 16, N: 1, Req: get(5)}), api.Answer{Err: api.ErrNil})
	}
	isSame(t, "the pictures", []any{none.Picture(), none.Durable()}, []any{api.Picture{}, api.Picture{}})
	isSame(t, "the lists", []any{none.Events(), none.Net(), none.Count()}, []any{nil0, nil0, api.NetCount{}})
	for _, a := range []api.Addr{0, 16, 32, 255} {
		o, e := none.Client(a)
		h, e1 := none.Hints(a)
		n, e2 := none.Node(a)
		d, e3 := none.Disk(a)
		isSame(t, "of somebody", []any{o, h, n, d}, []any{api.Outcome{}, nil0, api.NodeInfo{}, api.Disk{}})
		isSame(t, "errors", []api.Errno{e, e1, e2, e3}, slices.Repeat([]api.Errno{api.ErrNil}, 4))
	}
	moves, e := none.Plan()
	isSame(t, "Plan", []any{moves, e}, []any{nil0, api.ErrNil})
}

// A cluster that nobody made does not panic.
func TestR1Unmade(t *testing.T) {
	k := new(cluster.Cluster)
	for kind := range 256 {
		k.Step(api.Step{Kind: api.StepKind(kind), A: 16, N: 1, Req: get(5)})
		k.Step(api.Step{Kind: api.StepKind(kind), N: 1})
	}
	tell(k)
	for _, a := range []api.Addr{0, 16, 32, 255} {
		k.Client(a)
		k.Hints(a)
		k.Node(a)
		k.Disk(a)
	}
}

// Strange arguments of every kind of step are answered, whoever is there.
func TestR1StrangeSteps(t *testing.T) {
	numbers := []int{-1 << 63, -1, 0, 1, 64, 65536, 1<<63 - 1}
	for _, c := range []api.Config{config(), late()} {
		k := newCluster(t, c)
		for kind := range api.SPlan + 2 {
			for _, a := range []api.Addr{0, 1, 15, 16, 31, 32, 33, 255} {
				for _, n := range numbers {
					for _, b := range [][]byte{nil, {}, make([]byte, 1<<16)} {
						s := api.Step{Kind: kind, A: a, B: a, N: n, M: n, On: n > 0, Lo: top, Hi: top, Data: b}
						s.Req = api.Request{Kind: api.Kind(a), Key: top, Value: b, Old: b, Has: n < 0, Limit: uint8(n)}
						k.Step(s)
					}
				}
			}
		}
		does(t, k, settle(1, 1))
	}
}

// talk lets a cluster do all that it can, with one list under several names handed in; each is called with what each step answers.
func talk(k *cluster.Cluster, shared []byte, each func(api.Answer)) {
	step := func(s api.Step) { each(k.Step(s)) }
	step(begin(16, api.Request{Kind: api.KSet, Key: 5, Value: shared}))
	step(begin(17, api.Request{Kind: api.KCas, Key: 6, Has: true, Old: shared, Value: shared[1:]}))
	step(inject(40, 0, shared))
	step(settle(1, 5))
	step(begin(18, get(5)))
	step(begin(17, api.Request{Kind: api.KSet, Key: 7, Value: shared[:2]}))
	step(settle(1, 5))
	step(begin(16, scan(0, 99, 9)))
	step(double(0))
	step(deliver(1))
	step(begin(17, get(6)))
	step(shard(0, 1, 0, 5, 0, 0))
	step(double(0))
	step(double(1))
	step(deliver(2))
	step(on(api.SSync, 0))
	step(on(api.SCompact, 0))
	step(crash(1, 3))
	step(on(api.SGiveUp, 17))
	step(on(api.STick, 16))
	step(on(api.SRestart, 1))
	step(settle(4, 5))
	step(api.Step{Kind: api.SPlan, N: 3})
	step(settle(4, 5))
}

// What is answered is new memory: no two lists share any, and none shares any with what was handed in.
func TestR4NewMemory(t *testing.T) {
	for _, c := range []api.Config{wide(), late()} {
		k, shared := newCluster(t, c), []byte("shared")
		held := []any{shared}
		rooms := roomOf(shared)
		events := 0
		talk(k, shared, func(a api.Answer) {
			one, two := tell(k), tell(k)
			held = append(held, a, one, two)
			rooms = slices.Concat(rooms, roomsOf(reflect.ValueOf(a)), roomsOf(reflect.ValueOf(one)), roomsOf(reflect.ValueOf(two)))
			events += len(a.Events)
		})
		if string(shared) != "shared" || events < 14 {
			t.Errorf("%q, %d events", shared, events)
		}
		if !apart(rooms) {
			t.Errorf("of %d lists some share memory", len(rooms))
		}
		runtime.KeepAlive(held)
	}
}

// To write into an answer, or into what was handed in, is seen by nothing else.
func TestR4WrittenInto(t *testing.T) {
	for _, c := range []api.Config{wide(), late()} {
		var want []string
		k := newCluster(t, c)
		talk(k, []byte("shared"), func(a api.Answer) { want = append(want, shown(a)+shown(tell(k))) })
		k = newCluster(t, c)
		i := 0
		talk(k, []byte("shared"), func(a api.Answer) {
			s := tell(k)
			if got := shown(a) + shown(s); got != want[i] {
				t.Fatalf("answer %d: %s; want %s", i, brief(got), brief(want[i]))
			}
			i++
			spoil(reflect.ValueOf(&a).Elem())
			spoil(reflect.ValueOf(&s).Elem())
		})
	}
	k := newCluster(t, wide())
	value, old, data := []byte("value"), []byte("old"), []byte("data")
	does(t, k, begin(16, api.Request{Kind: api.KCas, Key: 5, Has: true, Old: old, Value: value}), inject(40, 0, data))
	before := shown(tell(k))
	spoil(reflect.ValueOf([][]byte{value, old, data}))
	if after := shown(tell(k)); after != before {
		t.Errorf("%s; want %s", brief(after), brief(before))
	}
	does(t, k, on(api.STick, 16))
	a := k.Step(on(api.STick, 16))
	list := letters(k.Net())
	isSame(t, "what is sent again", []any{a.Sent, list[0].m, list[1].m}, []any{1, list[0].m, list[0].m})
}

// Two clusters know nothing of each other.
func TestR5Apart(t *testing.T) {
	for seed := range 20 {
		d := diceOf(seed)
		c := d.config()
		one, two := newCluster(t, c), newCluster(t, c)
		var steps []api.Step
		var answers []api.Answer
		for range 100 {
			s := d.step(one, c)
			steps, answers = append(steps, s), append(answers, one.Step(s))
		}
		for i, s := range steps {
			isSame(t, brief(s), two.Step(s), answers[i])
			one.Step(d.step(one, c))
		}
	}
}
