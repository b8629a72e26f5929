package shell_test

import (
	"fmt"
	"reflect"
	"slices"
	"strings"
	"testing"

	"shard/api"
	"shard/shell"
)

const top uint64 = 1<<64 - 1

// head is the line of config.
const head = "cluster hosts=2 clients=1 pairs=4 bounds=4 queue=2 window=1 group=1 keep=64 mtu=256 net=64 patience=2 tries=3\n"

// config is the configuration of the chapter's examples.
func config() api.Config {
	return api.Config{Hosts: 2, Clients: 1, Pairs: 4, Bounds: 4, Queue: 2, Window: 1, Group: 1, Keep: 64, MTU: 256, Net: 64, Patience: 2, Tries: 3}
}

// wide is a configuration with plenty of everything.
func wide() api.Config {
	c := config()
	c.Hosts, c.Clients, c.Pairs, c.Bounds, c.Queue, c.Window, c.Net = 3, 3, 500, 200, 4, 2, 1000
	return c
}

// headOf is a configuration's line.
func headOf(c api.Config) string {
	return fmt.Sprintf("cluster hosts=%d clients=%d pairs=%d bounds=%d queue=%d window=%d group=%d keep=%d mtu=%d net=%d patience=%d tries=%d\n", c.Hosts, c.Clients, c.Pairs, c.Bounds, c.Queue, c.Window, c.Group, c.Keep, c.MTU, c.Net, c.Patience, c.Tries)
}

// shown is a value as a text, in which an empty list is the same as none.
func shown(v any) string { return fmt.Sprintf("%+v", v) }

func brief(v any) string {
	text := shown(v)
	return text[:min(len(text), 900)]
}

// same tells whether two values are the same; an empty list is the same as none.
func same(a, b any) bool { return reflect.DeepEqual(a, b) || shown(a) == shown(b) }

func isSame(t *testing.T, what string, got, want any) {
	t.Helper()
	if !same(got, want) {
		t.Fatalf("%s: %s; want %s", what, brief(got), brief(want))
	}
}

// parses wants a text to be a script, and gives it.
func parses(t *testing.T, s string) api.Script {
	t.Helper()
	script, at, e := shell.Parse(s)
	if at != 0 || e != api.OK {
		t.Fatalf("Parse(%.900q): %d, %d", s, at, e)
	}
	return script
}

// isFault wants a text to be refused.
func isFault(t *testing.T, s string, line int, err api.Errno) {
	t.Helper()
	script, at, e := shell.Parse(s)
	if at != line || e != err || !same(script, api.Script{}) {
		t.Errorf("Parse(%.900q): %s, %d, %d; want %d, %d", s, brief(script), at, e, line, err)
	}
}

// prints wants a script to be a text, and gives it.
func prints(t *testing.T, s api.Script) string {
	t.Helper()
	text, e := shell.Print(s)
	if e != api.OK {
		t.Fatalf("Print(%s): %d", brief(s), e)
	}
	return text
}

// isUnprintable wants a script to have no text.
func isUnprintable(t *testing.T, what string, s api.Script) {
	t.Helper()
	if text, e := shell.Print(s); text != "" || e != api.ErrScript {
		t.Errorf("%s: %.900q, %d", what, text, e)
	}
}

// plays wants a script to be played, and gives what is told.
func plays(t *testing.T, s api.Script) string {
	t.Helper()
	told, e := shell.Play(s)
	if e != api.OK {
		t.Fatalf("Play(%s): %d", brief(s), e)
	}
	return told
}

// runs wants a text to be played, and gives what is told.
func runs(t *testing.T, s string) string {
	t.Helper()
	told, at, e := shell.Run(s)
	if at != 0 || e != api.OK {
		t.Fatalf("Run(%.900q): %d, %d", s, at, e)
	}
	return told
}

// isTold wants the run of lines behind a configuration to tell just these lines.
func isTold(t *testing.T, c api.Config, script string, want ...string) {
	t.Helper()
	if got := runs(t, headOf(c)+script); got != lined(want...) {
		t.Errorf("Run of %.900q told\n%s\nwant\n%s", script, got, lined(want...))
	}
}

// ends wants the last lines that the run of a text tells to be these.
func ends(t *testing.T, c api.Config, script string, want ...string) {
	t.Helper()
	if got := runs(t, headOf(c)+script); !strings.HasSuffix("\n"+got, "\n"+lined(want...)) {
		t.Errorf("Run of %.900q told\n%s\nwant at its end\n%s", script, got[max(0, len(got)-900):], lined(want...))
	}
}

// lined gives a text of lines.
func lined(lines ...string) string {
	var text strings.Builder
	for _, line := range lines {
		text.WriteString(line + "\n")
	}
	return text.String()
}

// scriptOf is a script of steps, with the configuration of the examples.
func scriptOf(steps ...api.Step) api.Script { return api.Script{Config: config(), Steps: steps} }

// asking is a script of steps and questions.
func asking(steps []api.Step, asks ...api.Ask) api.Script {
	return api.Script{Config: config(), Steps: steps, Asks: asks}
}

func clears(n int) []api.Step { return slices.Repeat([]api.Step{{Kind: api.SClear}}, n) }
