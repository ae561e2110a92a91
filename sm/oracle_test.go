package sm_test

import (
	"fmt"
	"maps"
	"math/rand"
	"slices"
	"testing"

	"auspice/api"
	"auspice/engine"
	"auspice/nfa"
	"auspice/parse"
	"auspice/sm"
)

// 19.4

// said is a machine as the chapter's words say it, without what it may forget: of each pattern all events that came since it was added.
type said struct {
	index    int
	events   []api.Event
	sessions map[int]int
	patterns map[string]*watch
}

// watch is a pattern, the events that it saw, what an engine found in them, and which matches are kept.
type watch struct {
	text    string
	from    int
	machine api.Machine
	events  []api.Event
	matches []api.Match
	base    int
}

// find finds all matches anew, in all events.
func (w *watch) find(t *testing.T) {
	g, e := engine.New(w.machine)
	if e != api.OK {
		t.Fatalf("an engine of %s: %d", w.text, e)
	}
	w.matches = nil
	for _, v := range w.events {
		l, e := g.Feed(v)
		if e != api.OK {
			t.Fatalf("an engine of %s, fed %v: %d", w.text, v, e)
		}
		for _, m := range l {
			for i := range m.Picks {
				m.Picks[i] += w.from
			}
			w.matches = append(w.matches, m)
		}
	}
	w.base = max(w.base, len(w.matches)-64)
}

// apply is what the chapter says that a command answers.
func (x *said) apply(t *testing.T, index int, s string) api.Reply {
	if index <= x.index || index > 1<<39 {
		return api.Reply{Err: api.ErrArg}
	}
	x.index = index
	c, e := sm.Read(s)
	n := 0
	if e == api.OK {
		n, e = x.come(t, c)
	}
	if e != api.OK {
		n = 0
	}
	return api.Reply{Err: e, N: n}
}

// come is what a command answers that may be.
func (x *said) come(t *testing.T, c api.Cmd) (int, api.Errno) {
	w, there := x.patterns[c.Name]
	_, open := x.sessions[c.ID]
	switch {
	case c.Kind == api.CmdOpen && len(x.sessions) == 32:
		return 0, api.ErrFull
	case c.Kind == api.CmdOpen:
		x.sessions[x.index] = 0
		return x.index, api.OK
	case c.Kind == api.CmdEvent:
		return x.event(t, c.E)
	case c.Kind == api.CmdClose && !open:
		return 0, api.ErrNone
	case c.Kind == api.CmdClose:
		delete(x.sessions, c.ID)
		return c.ID, api.OK
	case c.Kind == api.CmdAdd && there:
		return 0, api.ErrThere
	case c.Kind == api.CmdAdd:
		return x.add(c.Name, c.Text)
	case !there:
		return 0, api.ErrNone
	case c.Kind == api.CmdDrop:
		delete(x.patterns, c.Name)
		return len(x.patterns), api.OK
	case c.N > len(w.matches):
		return 0, api.ErrArg
	}
	w.base = max(w.base, c.N)
	return w.base, api.OK
}

// event is what an event answers.
func (x *said) event(t *testing.T, v api.Event) (int, api.Errno) {
	came, open := x.sessions[v.Session]
	switch {
	case !open:
		return 0, api.ErrNone
	case v.Seq <= came:
		return v.Seq, api.OK
	case v.Seq > came+1:
		return 0, api.ErrGap
	case len(x.events) > 0 && v.Stamp < x.events[len(x.events)-1].Stamp:
		return 0, api.ErrStamp
	}
	x.sessions[v.Session] = v.Seq
	x.events = append(x.events, v)
	for _, w := range x.patterns {
		w.events = append(w.events, v)
		w.find(t)
	}
	return v.Seq, api.OK
}

// add is what a new pattern answers.
func (x *said) add(name, text string) (int, api.Errno) {
	p, _, e := parse.Pattern(text)
	if e != api.OK {
		return 0, e
	}
	m, e := nfa.Make(p)
	if e != api.OK {
		return 0, e
	}
	if len(x.patterns) == 8 {
		return 0, api.ErrFull
	}
	x.patterns[name] = &watch{text: text, from: len(x.events), machine: m}
	return len(x.patterns), api.OK
}

// holds fails, if a machine tells something else than what was said.
func (x *said) holds(t *testing.T, m *sm.Machine) {
	t.Helper()
	var sessions []api.Session
	for _, id := range slices.Sorted(maps.Keys(x.sessions)) {
		sessions = append(sessions, api.Session{ID: id, Seq: x.sessions[id]})
	}
	stamp := 0
	if len(x.events) > 0 {
		stamp = x.events[len(x.events)-1].Stamp
	}
	if m.Index() != x.index {
		t.Errorf("Index %d, want %d", m.Index(), x.index)
	}
	has(t, m, len(x.events), stamp, sessions, slices.Sorted(maps.Keys(x.patterns))...)
	for name, w := range x.patterns {
		is(t, m, name, w.text, w.from, api.OK)
		finds(t, m, name, w.base, 99, w.matches[w.base:], len(w.matches), api.OK)
		if w.base > 0 {
			finds(t, m, name, w.base-1, 99, nil, w.base, api.ErrGone)
		}
	}
	if len(m.Save()) > 1<<18 {
		t.Errorf("the machine's text has %d bytes", len(m.Save()))
	}
}

// anyText is the text of a pattern, or of none.
func anyText(r *rand.Rand) string {
	l := []string{"a", "b[x>3]", "a ; b", "a ; !c ; b within 9", "a ; b+ ; c", "a | b ; c?; a", "any ; any within 3", "(a ; b){1,3} | c", "a{2,}", "a ; ; b", "A", "a*", "a{9,9}", "(a;a;a;a;a;a;a;a;a){8,8}", ""}
	return l[r.Intn(len(l))]
}

// anyCommand is a command's text, mostly of what is there; that many ahead of a hundred more open sessions and add patterns.
func anyCommand(t *testing.T, r *rand.Rand, x *said, more int) string {
	session := func() int {
		if ids := slices.Sorted(maps.Keys(x.sessions)); len(ids) > 0 && r.Intn(12) > 0 {
			return ids[r.Intn(len(ids))]
		}
		return 1 + r.Intn(x.index+3)
	}
	name := fmt.Sprint("p", r.Intn(10))
	switch k := r.Intn(100+more) - more; {
	case k < 6 && k%2 == 0:
		return command(t, api.Cmd{Kind: api.CmdOpen})
	case k < 0:
		return command(t, add(name, anyText(r)))
	case k < 6:
		return command(t, shut(session()))
	case k < 20:
		return command(t, add(name, anyText(r)))
	case k < 23:
		return command(t, drop(name))
	case k < 30:
		n := r.Intn(9)
		if w := x.patterns[name]; w != nil {
			n = max(0, w.base+r.Intn(len(w.matches)-w.base+4)-2)
		}
		return command(t, forget(name, n))
	case k < 32:
		return changed(r, command(t, add(name, anyText(r))))
	}
	id := session()
	c := of(id, max(1, x.sessions[id]+1-r.Intn(5)/4+r.Intn(9)/8), 0, string([]byte{"aabbbccd"[r.Intn(8)]}))
	if n := len(x.events); n > 0 {
		c.E.Stamp = max(0, x.events[n-1].Stamp+r.Intn(4)-r.Intn(2)*r.Intn(3))
	}
	if r.Intn(2) == 0 {
		c.E.Fields = []api.Field{{Name: "x", V: whole(r.Intn(8))}}
	}
	return command(t, c)
}

// tally is how often each error was answered.
type tally map[api.Errno]int

// world lets any commands come to machines: one that is never saved, one that is saved and loaded now and then, and what the chapter says.
func world(t *testing.T, r *rand.Rand, steps int, seen tally) {
	x := &said{sessions: map[int]int{}, patterns: map[string]*watch{}}
	a, b := sm.New(), sm.New()
	more := r.Intn(3) * 20
	for range steps {
		at := x.index + 1 + r.Intn(8)/7
		if r.Intn(20) == 0 {
			at = x.index - r.Intn(3)
		}
		s := anyCommand(t, r, x, more)
		want := x.apply(t, at, s)
		if got := a.Apply(at, s); got != want {
			t.Fatalf("at %d, %x: %v, want %v", at, s, got, want)
		}
		if got := b.Apply(at, s); got != want {
			t.Fatalf("at %d, %x, where it was loaded: %v, want %v", at, s, got, want)
		}
		seen[want.Err]++
		if r.Intn(4) == 0 {
			x.holds(t, a)
			x.holds(t, b)
			if a.Save() != b.Save() {
				t.Fatalf("one that was loaded in between is another one:\n%x\n%x", a.Save(), b.Save())
			}
			b = loaded(t, b.Save())
			x.holds(t, b)
		}
		if t.Failed() {
			return
		}
	}
	for _, w := range x.patterns {
		for _, m := range w.matches {
			if !nfa.Takes(w.machine, x.events, m.Picks) || m.Picks[0] < w.from {
				t.Fatalf("%s finds %v, which is no match", w.text, m)
			}
		}
	}
}

func TestAnyCommands(t *testing.T) {
	r := draws()
	seen := tally{}
	for range 60 {
		world(t, r, 50+r.Intn(250), seen)
	}
	for _, e := range []api.Errno{api.OK, api.ErrArg, api.ErrForm, api.ErrNone, api.ErrFull, api.ErrThere, api.ErrLex, api.ErrTree, api.ErrSyntax, api.ErrBig, api.ErrStamp, api.ErrGap} {
		if seen[e] < 20 {
			t.Errorf("the error %d was answered only %d times", e, seen[e])
		}
	}
}

// Of what is told twice and out of turn each event counts once, in order.
func TestEachEventCountsOnce(t *testing.T) {
	r := draws()
	for range 100 {
		m := sm.New()
		comes(t, m, add("p", "a"), 1, api.OK)
		ids := []int{opened(t, m), opened(t, m), opened(t, m)}
		told := map[int]int{}
		for range 200 {
			id := ids[r.Intn(3)]
			seq := max(1, told[id]+r.Intn(5)-2)
			reply := m.Apply(m.Index()+1, command(t, of(id, seq, 1, "a")))
			want := api.Reply{N: seq}
			if seq > told[id]+1 {
				want = api.Reply{Err: api.ErrGap}
			} else if seq > told[id] {
				told[id] = seq
			}
			if reply != want {
				t.Fatalf("(%d, %d), of which %d came: %v, want %v", id, seq, told[id], reply, want)
			}
			if r.Intn(10) == 0 {
				m = loaded(t, m.Save())
			}
		}
		n := told[ids[0]] + told[ids[1]] + told[ids[2]]
		if m.Count() != n {
			t.Fatalf("Count %d, of %v", m.Count(), told)
		}
		finds(t, m, "p", max(0, n-64), 99, row(max(0, n-64), n), n, api.OK)
	}
}
