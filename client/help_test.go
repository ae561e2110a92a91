package client_test

import (
	"math"
	"math/rand"
	"slices"
	"strconv"
	"testing"

	"auspice/api"
	"auspice/client"
	"auspice/sm"
)

// draws is a row of numbers that is the same at each run.
func draws() *rand.Rand { return rand.New(rand.NewSource(22)) }

// far are numbers far from all that may be.
func far() []int {
	return []int{math.MinInt, math.MinInt + 1, -api.MaxIndex, -1, api.MaxIndex + 1, math.MaxInt - 1, math.MaxInt}
}

// whole, number and text are fields of the three kinds.
func whole(name string, n int) api.Field {
	return api.Field{Name: name, V: api.Value{Kind: api.Whole, N: n}}
}
func number(name string, f float64) api.Field {
	return api.Field{Name: name, V: api.Value{Kind: api.Real, F: f}}
}
func text(name, s string) api.Field {
	return api.Field{Name: name, V: api.Value{Kind: api.Text, S: s}}
}

// of is an event as it is added.
func of(stamp int, kind string, l ...api.Field) api.Event {
	return api.Event{Stamp: stamp, Kind: kind, Fields: l}
}

// nth is an event that its field tells from others.
func nth(n int) api.Event { return of(n, "e", whole("n", n)) }

// bare is an event without Session and Seq.
func bare(e api.Event) api.Event {
	return api.Event{Stamp: e.Stamp, Kind: e.Kind, Fields: e.Fields}
}

// like tells whether two lists of events are the same: one NaN is as good as another one, -0 and 0 are two.
func like(a, b []api.Event) bool {
	return slices.EqualFunc(a, b, func(x, y api.Event) bool {
		same := x.Session == y.Session && x.Seq == y.Seq && x.Stamp == y.Stamp && x.Kind == y.Kind
		return same && slices.EqualFunc(x.Fields, y.Fields, likeFields)
	})
}

func likeFields(x, y api.Field) bool {
	same := math.Float64bits(x.V.F) == math.Float64bits(y.V.F) || x.V.F != x.V.F && y.V.F != y.V.F
	return x.Name == y.Name && x.V.Kind == y.V.Kind && x.V.N == y.V.N && x.V.S == y.V.S && same
}

// command is a command's text.
func command(t *testing.T, c api.Cmd) string {
	t.Helper()
	s, e := sm.Write(c)
	if e != api.OK {
		t.Fatalf("Write of %v: %d", c, e)
	}
	return s
}

// open is the text that asks for a session.
const open = "\x01"

// told is the text that tells an event as one of a session.
func told(t *testing.T, e api.Event, session, seq int) string {
	t.Helper()
	e.Session, e.Seq = session, seq
	return command(t, api.Cmd{Kind: api.CmdEvent, E: e})
}

// teller is a new teller at whom some events wait.
func teller(t *testing.T, nodes int, l ...api.Event) *client.Teller {
	t.Helper()
	x := client.NewTeller(nodes)
	if x == nil {
		t.Fatalf("NewTeller(%d): nil", nodes)
	}
	adds(t, x, l...)
	return x
}

// adds adds events that may be.
func adds(t *testing.T, x *client.Teller, l ...api.Event) {
	t.Helper()
	for _, e := range l {
		if none := x.Add(e); none != api.OK {
			t.Fatalf("Add(%v): %d", e, none)
		}
	}
}

// inSession is a teller of three nodes with a session, at whom some events wait; it asks the node 1.
func inSession(t *testing.T, id int, l ...api.Event) *client.Teller {
	t.Helper()
	x := teller(t, 3, l...)
	x.Late()
	x.Told(api.Reply{N: id}, 2)
	has(t, x, id, 0, len(l))
	return x
}

// asks fails, unless a teller asks that node by that text, and asks the same when it is asked again.
func asks(t *testing.T, x *client.Teller, to int, text string) {
	t.Helper()
	want := api.Ask{To: to, Text: text}
	for range 2 {
		if a, ok := x.Ask(); a != want || !ok {
			t.Errorf("Ask: %d, %q, %v, want %d, %q", a.To, a.Text, ok, to, text)
		}
	}
}

// silent fails, if a teller asks something.
func silent(t *testing.T, x *client.Teller) {
	t.Helper()
	if a, ok := x.Ask(); ok || a != (api.Ask{}) {
		t.Errorf("Ask, though nothing waits: %d, %q, %v", a.To, a.Text, ok)
	}
}

// has fails, unless a teller has that session, so many events wait, and these were refused.
func has(t *testing.T, x *client.Teller, id, seq, left int, refused ...api.Event) {
	t.Helper()
	if i, s := x.Session(); i != id || s != seq {
		t.Errorf("Session: %d, %d, want %d, %d", i, s, id, seq)
	}
	if n := x.Left(); n != left {
		t.Errorf("Left: %d, want %d", n, left)
	}
	if l := x.Refused(); !like(l, refused) {
		t.Errorf("Refused: %v, want %v", l, refused)
	}
}

// match is a match, and row are matches that their numbers tell apart.
func match(picks ...int) api.Match { return api.Match{Picks: picks} }
func row(from, below int) (l []api.Match) {
	for n := from; n < below; n++ {
		l = append(l, match(n, n+2))
	}
	return l
}

// gets is what a reader gets of row.
func gets(from, below int) (l []api.Got) {
	for i, m := range row(from, below) {
		l = append(l, api.Got{N: from + i, M: m})
	}
	return l
}

// same tells whether two lists of what was got are the same.
func same(a, b []api.Got) bool {
	return slices.EqualFunc(a, b, func(x, y api.Got) bool { return x.N == y.N && slices.Equal(x.M.Picks, y.M.Picks) })
}

// reader is a new reader of the pattern p, nine matches at most at once.
func reader(t *testing.T, nodes int) *client.Reader {
	t.Helper()
	x := client.NewReader(nodes, "p", 9)
	if x == nil {
		t.Fatalf("NewReader(%d, p, 9): nil", nodes)
	}
	return x
}

// reads fails, unless a reader of reader asks that node from there on, at which so many are gone, and got that.
func reads(t *testing.T, x *client.Reader, to, at, gone int, got []api.Got) {
	t.Helper()
	want := api.Ask{To: to, Name: "p", From: at, Most: 9}
	for range 2 {
		if a, ok := x.Ask(); a != want || !ok {
			t.Errorf("Ask: %v, %v, want %v", a, ok, want)
		}
	}
	if n := x.At(); n != at {
		t.Errorf("At: %d, want %d", n, at)
	}
	if n := x.Gone(); n != gone {
		t.Errorf("Gone: %d, want %d", n, gone)
	}
	if l := x.Got(); !same(l, got) {
		t.Errorf("Got: %v, want %v", l, got)
	}
}

// words are words, and noWords are none.
func words() []string { return []string{"a", "p", "z9_", "within", "abcdefghijklmnop"} }
func noWords() []string {
	return []string{"", "A", "0", "_a", "a-", "a b", "p\n", "\xff", "abcdefghijklmnopq"}
}

// others are all errors but ErrNone and ErrStamp, and numbers of none.
func others() []api.Errno {
	return []api.Errno{
		api.ErrArg, api.ErrLong, api.ErrForm, api.ErrShort, api.ErrSum, api.ErrFull, api.ErrDown, api.ErrThere, api.ErrLex, api.ErrTree,
		api.ErrSyntax, api.ErrBig, api.ErrLead, api.ErrBusy, api.ErrGap, api.ErrGone, -1, 10, 129, 131, 1000, math.MaxInt, math.MinInt,
	}
}

// fields are so many fields whose names rise.
func fields(n int) (l []api.Field) {
	for i := range n {
		l = append(l, whole("f"+strconv.Itoa(i), i))
	}
	return l
}
