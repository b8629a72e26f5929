package shell_test

import (
	"reflect"
	"runtime"
	"slices"
	"strings"
	"sync"
	"testing"

	"shard/api"
	"shard/shell"
)

// room is where a list lies, spare room included.
type room struct{ first, behind uintptr }

// roomsOf finds the lists in a value, and those within them.
func roomsOf(v reflect.Value) []room {
	var rooms []room
	switch v.Kind() {
	case reflect.Struct:
		for i := range v.NumField() {
			rooms = append(rooms, roomsOf(v.Field(i))...)
		}
	case reflect.Slice:
		if v.Cap() > 0 {
			first := v.Pointer()
			rooms = append(rooms, room{first, first + uintptr(v.Cap())*v.Type().Elem().Size()})
		}
		for i := range v.Len() {
			rooms = append(rooms, roomsOf(v.Index(i))...)
		}
	}
	return rooms
}

func apart(rooms []room) bool {
	slices.SortFunc(rooms, func(a, b room) int { return int(a.first) - int(b.first) })
	for i := 1; i < len(rooms); i++ {
		if rooms[i-1].behind > rooms[i].first {
			return false
		}
	}
	return true
}

// spoil writes over all bytes in a script, and over the spare room behind them.
func spoil(s api.Script) {
	for i := range s.Steps {
		for _, list := range [][]byte{s.Steps[i].Data, s.Steps[i].Req.Value, s.Steps[i].Req.Old} {
			list = list[:cap(list)]
			for j := range list {
				list[j] ^= 0x5a
			}
		}
	}
	clear(s.Steps[:cap(s.Steps)])
	clear(s.Asks[:cap(s.Asks)])
}

// No two lists that Parse gives share memory, in one script or in two, and what is written into one is seen by no other.
func TestR4NewMemory(t *testing.T) {
	text := head + strings.Repeat("c0 cas 5 \"same\" same\ninject @33 h0 same\nask net\nc0 cas 5 \"\" \"\"\n", 20)
	one, two := parses(t, text), parses(t, text)
	rooms := slices.Concat(roomsOf(reflect.ValueOf(one)), roomsOf(reflect.ValueOf(two)))
	if len(rooms) < 120 || !apart(rooms) {
		t.Errorf("of %d lists some share memory", len(rooms))
	}
	runtime.KeepAlive(one)
	want := shown(two)
	spoil(one)
	isSame(t, "the other script", shown(two), want)
	isSame(t, "a third script", shown(parses(t, text)), want)
}

// What is handed in is not changed, its spare room neither.
func TestR4Kept(t *testing.T) {
	for seed := range 60 {
		d := diceOf(seed)
		s := d.script(d.config(), 40, 1)
		shared := []byte("shared, with room")
		s.Steps = append(s.Steps, api.Step{Kind: api.SBegin, A: 16, Req: api.Request{Kind: api.KCas, Has: true, Old: shared[:2], Value: shared[1:3]}}, api.Step{Kind: api.SInject, A: 33, Data: shared[:6]})
		s.Steps, s.Asks = slices.Grow(s.Steps, 9), slices.Grow(s.Asks, 9)
		before := shown([]any{s, s.Steps[:cap(s.Steps)], s.Asks[:cap(s.Asks)], shared})
		text, e := shell.Print(s)
		isSame(t, "Print", e, api.OK)
		told, e := shell.Play(s)
		isSame(t, "Play", e, api.OK)
		isSame(t, "what was handed in", shown([]any{s, s.Steps[:cap(s.Steps)], s.Asks[:cap(s.Asks)], shared}), before)
		again, e := shell.Print(s)
		isSame(t, "Print again", []any{again, e}, []any{text, api.OK})
		back := parses(t, text)
		spoil(s)
		isSame(t, "Play of what was read", plays(t, back), told)
	}
}

// Calls know nothing of one another, one behind the other or at one time.
func TestR5Apart(t *testing.T) {
	var texts, want []string
	for seed := range 16 {
		d := diceOf(seed)
		s := d.script(d.config(), 60, 1)
		texts, want = append(texts, prints(t, s)), append(want, plays(t, s))
	}
	var all sync.WaitGroup
	got := make([]string, len(texts))
	for i := range texts {
		all.Add(1)
		go func() {
			defer all.Done()
			got[i], _, _ = shell.Run(texts[i])
		}()
	}
	all.Wait()
	isSame(t, "at one time", got, want)
}

// Any bytes are answered, and so is any script.
func TestR1Anything(t *testing.T) {
	for seed := range 2000 {
		d := diceOf(seed)
		b := make([]byte, d.Intn(200))
		d.Read(b)
		written := []byte(d.text(5))
		for range d.Intn(4) {
			written[d.Intn(len(written))] ^= 1 << d.Intn(8)
		}
		for _, s := range []string{string(b), head + string(b), string(written), string(written[:d.Intn(len(written)+1)])} {
			script, at, e := shell.Parse(s)
			want, wantAt, wantE := docParse(s)
			if at != wantAt || e != wantE || !same(script, want) {
				t.Fatalf("Parse(%q): %s, %d, %d; want %s, %d, %d", s, brief(script), at, e, brief(want), wantAt, wantE)
			}
			if (e == api.OK) != (at == 0) {
				t.Fatalf("Parse(%q): %d, %d", s, at, e)
			}
		}
	}
	numbers := []int{-1 << 63, -1, 0, 1, 64, 1 << 31, 1<<63 - 1}
	for kind := range api.SPlan + 3 {
		for _, a := range []api.Addr{0, 1, 15, 16, 31, 32, 33, 255} {
			for _, n := range numbers {
				for _, b := range [][]byte{nil, {}, make([]byte, 1<<13)} {
					s := api.Step{Kind: kind, A: a, B: a, N: n, M: n, On: n > 0, Lo: top, Hi: top, Data: b}
					s.Req = api.Request{Kind: api.Kind(a), Key: top, Value: b, Old: b, Has: n < 0, Limit: uint8(n)}
					script := asking([]api.Step{s}, api.Ask{What: api.AskKind(a), A: a}, api.Ask{At: 1, What: 9, A: a}, api.Ask{At: 1, What: 10, A: a}, api.Ask{At: 1, What: 11, A: a}, api.Ask{At: 1, What: 12, A: a})
					told, e := shell.Play(script)
					want, wantE := docPlay(script)
					isSame(t, brief(s), []any{told, e}, []any{want, wantE})
					isUnprintable(t, brief(s), script)
				}
			}
		}
	}
}
