package sm_test

import (
	"fmt"
	"math/rand"
	"slices"
	"testing"

	"auspice/api"
	"auspice/bits"
	"auspice/sm"
)

// draws is a row of numbers that is the same at each run.
func draws() *rand.Rand { return rand.New(rand.NewSource(19)) }

// num is the bytes of numbers.
func num(l ...uint64) string {
	s := ""
	for _, n := range l {
		s += bits.Num(n)
	}
	return s
}

// changed is a text with some bytes changed, taken out or put in.
func changed(r *rand.Rand, s string) string {
	b := []byte(s)
	for range 1 + r.Intn(3) {
		i := r.Intn(len(b) + 1)
		switch r.Intn(3) {
		case 0:
			b = slices.Insert(b, i, byte(r.Intn(256)))
		case 1:
			b = slices.Delete(b, i, min(i+1, len(b)))
		case 2:
			if i < len(b) {
				b[i] += byte(r.Intn(3)) - 1
			}
		}
	}
	return string(b)
}

// short is a command as it is told in a test, cut where it is long.
func short(c api.Cmd) string { return fmt.Sprintf("%.200s", fmt.Sprint(c)) }

// command is a command's text.
func command(t *testing.T, c api.Cmd) string {
	t.Helper()
	s, e := sm.Write(c)
	if e != api.OK {
		t.Fatalf("Write of %v: %d", c, e)
	}
	return s
}

// comes lets a command come at the next index, and fails, if it is not answered so, or the index is another one then.
func comes(t *testing.T, m *sm.Machine, c api.Cmd, n int, e api.Errno) {
	t.Helper()
	at := m.Index() + 1
	if r := m.Apply(at, command(t, c)); r.N != n || r.Err != e {
		t.Errorf("at %d, %s: %v, want %d, %d", at, short(c), r, n, e)
	}
	if m.Index() != at {
		t.Errorf("behind %d Index is %d", at, m.Index())
	}
}

// opened opens a session, and is its number.
func opened(t *testing.T, m *sm.Machine) int {
	t.Helper()
	id := m.Index() + 1
	comes(t, m, api.Cmd{Kind: api.CmdOpen}, id, api.OK)
	return id
}

// of is the command of an event without fields.
func of(session, seq, stamp int, kind string) api.Cmd {
	return api.Cmd{Kind: api.CmdEvent, E: api.Event{Session: session, Seq: seq, Stamp: stamp, Kind: kind}}
}

// add, drop, forget and shut are commands.
func add(name, text string) api.Cmd { return api.Cmd{Kind: api.CmdAdd, Name: name, Text: text} }
func drop(name string) api.Cmd      { return api.Cmd{Kind: api.CmdDrop, Name: name} }
func forget(name string, n int) api.Cmd {
	return api.Cmd{Kind: api.CmdForget, Name: name, N: n}
}
func shut(id int) api.Cmd { return api.Cmd{Kind: api.CmdClose, ID: id} }

// match is a match of these picks.
func match(picks ...int) api.Match { return api.Match{Picks: picks} }

// finds fails, if Matches does not answer that.
func finds(t *testing.T, m *sm.Machine, name string, from, most int, want []api.Match, next int, e api.Errno) {
	t.Helper()
	if l, n, f := m.Matches(name, from, most); fmt.Sprint(l) != fmt.Sprint(want) || n != next || f != e {
		t.Errorf("Matches(%s, %d, %d): %v, %d, %d, want %v, %d, %d", name, from, most, l, n, f, want, next, e)
	}
}

// has fails, if a machine's Count, Stamp, sessions or names are not these.
func has(t *testing.T, m *sm.Machine, count, stamp int, sessions []api.Session, names ...string) {
	t.Helper()
	if m.Count() != count || m.Stamp() != stamp {
		t.Errorf("Count %d, Stamp %d, want %d, %d", m.Count(), m.Stamp(), count, stamp)
	}
	if l := m.Sessions(); !slices.Equal(l, sessions) {
		t.Errorf("the sessions are %v, want %v", l, sessions)
	}
	if l := m.Names(); !slices.Equal(l, names) {
		t.Errorf("the names are %q, want %q", l, names)
	}
}

// is fails, if a pattern's text and From are not these.
func is(t *testing.T, m *sm.Machine, name, text string, from int, e api.Errno) {
	t.Helper()
	if s, n, f := m.Pattern(name); s != text || n != from || f != e {
		t.Errorf("Pattern(%s): %q, %d, %d, want %q, %d, %d", name, s, n, f, text, from, e)
	}
}

// loaded is the machine of a text.
func loaded(t *testing.T, s string) *sm.Machine {
	t.Helper()
	m, e := sm.Load(s)
	if m == nil || e != api.OK {
		t.Fatalf("Load of %.100x: %v, %d", s, m, e)
	}
	return m
}
