package tale_test

import (
	"fmt"
	"math"
	"math/rand"
	"reflect"
	"strings"
	"testing"

	"auspice/api"
	"auspice/sm"
	"auspice/tale"
)

// draws is a row of numbers that is the same at each run.
func draws() *rand.Rand { return rand.New(rand.NewSource(24)) }

// most is the greatest number that has a line.
const most = 999999999999999999

// command is a command's text.
func command(c api.Cmd) string {
	s, e := sm.Write(c)
	if e != api.OK {
		panic(fmt.Sprint("no command: ", c))
	}
	return s
}

// add is the text that adds a pattern.
func add(name, text string) string {
	return command(api.Cmd{Kind: api.CmdAdd, Name: name, Text: text})
}

// whole and number are fields, and of is an event.
func whole(name string, n int) api.Field {
	return api.Field{Name: name, V: api.Value{Kind: api.Whole, N: n}}
}
func number(name string, f float64) api.Field {
	return api.Field{Name: name, V: api.Value{Kind: api.Real, F: f}}
}
func of(stamp int, kind string, l ...api.Field) api.Event {
	return api.Event{Stamp: stamp, Kind: kind, Fields: l}
}

// tells is the act that tells an event.
func tells(who int, e api.Event) api.Act { return api.Act{Kind: api.ActTell, Who: who, E: e} }

// lays is the act that lays a text.
func lays(node, delay int, s string) api.Act {
	return api.Act{Kind: api.ActLay, Node: node, Delay: delay, Text: s}
}

// bits are acts whose real numbers are their bits, and whose empty lists are nil, so that they can be compared.
func bits(a api.Act) api.Act {
	var l []api.Field
	for _, f := range a.E.Fields {
		f.V.S += fmt.Sprintf(" %016x", math.Float64bits(f.V.F))
		f.V.F = 0
		l = append(l, f)
	}
	a.E.Fields = l
	return a
}

// same tells whether two acts are the same.
func same(a, b api.Act) bool { return reflect.DeepEqual(bits(a), bits(b)) }

// short is a text of what something is.
func short(x any) string { return fmt.Sprintf("%.200s", fmt.Sprintf("%+v", x)) }

// shows fails, unless an act has that line.
func shows(t *testing.T, a api.Act, want string) {
	t.Helper()
	if s, e := tale.Show(a); s != want || e != api.OK {
		t.Errorf("Show(%s): %.200q, %d, want %.200q", short(a), s, e, want)
	}
}

// says fails, unless a line is that of an act.
func says(t *testing.T, s string, want api.Act) {
	t.Helper()
	if a, e := tale.Read(s); !same(a, want) || e != api.OK {
		t.Errorf("Read(%.200q): %s, %d, want %s", s, short(a), e, short(want))
	}
}

// silent fails, if an act has a line.
func silent(t *testing.T, a api.Act) {
	t.Helper()
	if s, e := tale.Show(a); s != "" || e != api.ErrArg {
		t.Errorf("Show(%s): %.200q, %d", short(a), s, e)
	}
}

// none fails, if a line is that of an act.
func none(t *testing.T, s string) {
	t.Helper()
	if a, e := tale.Read(s); !same(a, api.Act{}) || e != api.ErrForm {
		t.Errorf("Read(%.200q): %s, %d", s, short(a), e)
	}
}

// play is what a tale tells.
func play(t *testing.T, nodes int, text string) string {
	t.Helper()
	s, e := tale.Play(nodes, text)
	if e != api.OK {
		t.Fatalf("Play(%d, %.200q): %d", nodes, text, e)
	}
	return s
}

// stops fails, unless a tale is answered by that error.
func stops(t *testing.T, nodes int, text string, want api.Errno) {
	t.Helper()
	if s, e := tale.Play(nodes, text); s != "" || e != want {
		t.Errorf("Play(%d, %.200q): %.200q, %d, want %d", nodes, text, s, e, want)
	}
}

// tells fails, unless a tale tells those lines.
func becomes(t *testing.T, nodes int, text string, want ...string) {
	t.Helper()
	if s := play(t, nodes, text); s != strings.Join(want, "\n")+"\n" {
		t.Errorf("Play(%d, %.200q):\n%s\nwant\n%s", nodes, text, s, strings.Join(want, "\n"))
	}
}

// far are numbers far from all that may be.
func far() []int {
	return []int{math.MinInt, math.MinInt + 1, -api.MaxIndex, -1, api.MaxIndex + 1, math.MaxInt - 1, math.MaxInt}
}
