package engine_test

import (
	"fmt"
	"math"
	"slices"
	"strings"
	"testing"

	"auspice/api"
	"auspice/engine"
	"auspice/nfa"
	"auspice/parse"
)

// made is the machine of a pattern's text.
func made(t *testing.T, s string) api.Machine {
	t.Helper()
	p, at, e := parse.Pattern(s)
	if e != api.OK {
		t.Fatalf("%q is no pattern: %d, %v", s, at, e)
	}
	m, e := nfa.Make(p)
	if e != api.OK {
		t.Fatalf("%q has no machine: %v", s, e)
	}
	return m
}

// begun is an engine of a machine that knows nothing.
func begun(t *testing.T, m api.Machine) *engine.Engine {
	t.Helper()
	g, e := engine.New(m)
	if g == nil || e != api.OK {
		t.Fatalf("New of %+v: %v, %v", m, g, e)
	}
	return g
}

// resumed is an engine of a machine that knows a track.
func resumed(t *testing.T, m api.Machine, k api.Track) *engine.Engine {
	t.Helper()
	g, e := engine.Resume(m, k)
	if g == nil || e != api.OK {
		t.Fatalf("Resume of %+v: %v, %v", k, g, e)
	}
	return g
}

// told is an event of a kind, written with its stamp behind an @, if it is not 0.
func told(s string) api.Event {
	kind, stamp, _ := strings.Cut(s, "@")
	e := api.Event{Kind: kind}
	if stamp != "" {
		fmt.Sscan(stamp, &e.Stamp)
	}
	return e
}

// fed is what an engine answers to events, written as for told: of each event its matches with a comma between, each of its picks with points between; a - of none; E and its number of an error.
func fed(g *engine.Engine, events string) string {
	var l []string
	for _, s := range strings.Fields(events) {
		l = append(l, answer(g.Feed(told(s))))
	}
	return strings.Join(l, " ")
}

// answer is what Feed answers, as a text.
func answer(matches []api.Match, e api.Errno) string {
	if e != api.OK {
		return fmt.Sprintf("E%d%s", e, strings.Repeat("?", len(matches)))
	}
	var l []string
	for _, m := range matches {
		l = append(l, points(m.Picks))
	}
	if len(l) == 0 {
		return "-"
	}
	return strings.Join(l, ",")
}

func points(picks []int) string {
	return strings.ReplaceAll(strings.Trim(fmt.Sprint(picks), "[]"), " ", ".")
}

// shown is a track as a text: the count, the stamp, the lost ones; of each run its picks, its state behind a >, its stamp behind an @, and its seen guards behind a !, if there are some.
func shown(k api.Track) string {
	s := fmt.Sprintf("%d @%d -%d", k.Count, k.Stamp, k.Lost)
	for _, r := range k.Runs {
		s += fmt.Sprintf(" %s>%d@%d", points(r.Picks), r.State, r.Stamp)
		if r.Seen != 0 {
			s += fmt.Sprintf("!%x", r.Seen)
		}
		if len(r.Picks) == 0 || r.Picks[0] != r.Begin {
			s += fmt.Sprintf("(begins %d)", r.Begin)
		}
	}
	return s
}

// knows fails, if an engine knows something else than a text says.
func knows(t *testing.T, what string, g *engine.Engine, want string) {
	t.Helper()
	if got := shown(g.Track()); got != want {
		t.Errorf("%s: it knows %s, want %s", what, got, want)
	}
}

// atoms are so many atoms of a kind.
func atoms(n int, kind string) (l []api.Node) {
	for range n {
		l = append(l, api.Node{Op: api.NodeAtom, Kind: kind})
	}
	return l
}

// row is the numbers from one on, so many of them.
func row(from, n int) (l []int) {
	for i := range n {
		l = append(l, from+i)
	}
	return l
}

// 13.1: which machines may be

// changes are changes that make a machine one that may not be.
func changes() map[string]func(m *api.Machine) {
	return map[string]func(m *api.Machine){
		"nothing": func(m *api.Machine) { *m = api.Machine{} },
		"no atoms": func(m *api.Machine) {
			*m = api.Machine{Nots: m.Nots, Within: 3}
		},
		"Within -1":           func(m *api.Machine) { m.Within = -1 },
		"the least Within":    func(m *api.Machine) { m.Within = math.MinInt },
		"too few Moves":       func(m *api.Machine) { m.Moves = m.Moves[:2] },
		"no Moves":            func(m *api.Machine) { m.Moves = nil },
		"too many Moves":      func(m *api.Machine) { m.Moves = append(m.Moves, nil) },
		"too few Final":       func(m *api.Machine) { m.Final = m.Final[:2] },
		"no Final":            func(m *api.Machine) { m.Final = nil },
		"too many Final":      func(m *api.Machine) { m.Final = append(m.Final, false) },
		"too few Atoms":       func(m *api.Machine) { m.Atoms = m.Atoms[:2] },
		"too many Atoms":      func(m *api.Machine) { m.Atoms = append(m.Atoms, m.Atoms[0]) },
		"a start below":       func(m *api.Machine) { m.Starts = append(m.Starts, -1) },
		"a start above":       func(m *api.Machine) { m.Starts = append(m.Starts, 3) },
		"a far start":         func(m *api.Machine) { m.Starts = []int{math.MaxInt} },
		"a To below":          func(m *api.Machine) { m.Moves[2] = []api.Move{{To: -1}} },
		"a To above":          func(m *api.Machine) { m.Moves[2] = []api.Move{{To: 0}, {To: 3}} },
		"a far To":            func(m *api.Machine) { m.Moves[0] = []api.Move{{To: math.MinInt}} },
		"a guard below":       func(m *api.Machine) { m.Moves[2] = []api.Move{{Guards: []int{0, -1}}} },
		"a guard above":       func(m *api.Machine) { m.Moves[2] = []api.Move{{Guards: []int{0, 1}}} },
		"a far guard":         func(m *api.Machine) { m.Moves[2] = []api.Move{{Guards: []int{math.MaxInt}}} },
		"a guard of none":     func(m *api.Machine) { m.Nots = nil },
		"65 guards":           func(m *api.Machine) { m.Nots = atoms(65, "x") },
		"very many guards":    func(m *api.Machine) { m.Nots = atoms(1000, "x") },
		"65 atoms":            func(m *api.Machine) { *m = wide(65, 0) },
		"65 atoms and guards": func(m *api.Machine) { *m = wide(65, 65) },
		"very many atoms":     func(m *api.Machine) { *m = wide(1000, 0) },
	}
}

// wide is a machine of so many atoms and guards, each atom leading to the one above, past all guards.
func wide(n, guards int) api.Machine {
	m := api.Machine{Atoms: atoms(n, "a"), Nots: atoms(guards, "x"), Starts: []int{0}, Moves: make([][]api.Move, n), Final: make([]bool, n)}
	for i := range n - 1 {
		m.Moves[i] = []api.Move{{To: i + 1, Guards: row(0, guards)}}
	}
	m.Final[n-1] = true
	return m
}

func TestMachinesThatMayNotBe(t *testing.T) {
	for what, change := range changes() {
		m := made(t, "a ; !x ; b+ ; c")
		begun(t, m)
		change(&m)
		if g, e := engine.New(m); g != nil || e != api.ErrArg {
			t.Errorf("New of a machine with %s: %v, %v", what, g, e)
		}
		if g, e := engine.Resume(m, api.Track{}); g != nil || e != api.ErrArg {
			t.Errorf("Resume of a machine with %s: %v, %v", what, g, e)
		}
		if g, e := engine.Resume(m, api.Track{Count: -1}); g != nil || e != api.ErrArg {
			t.Errorf("Resume of a machine with %s and a wrong track: %v, %v", what, g, e)
		}
	}
}

func TestMachinesThatMayBe(t *testing.T) {
	for what, m := range map[string]api.Machine{
		"64 atoms":            wide(64, 0),
		"64 guards":           wide(2, 64),
		"64 of both":          wide(64, 64),
		"one atom":            wide(1, 0),
		"no starts":           {Atoms: atoms(1, "a"), Moves: make([][]api.Move, 1), Final: []bool{true}},
		"the greatest Within": {Atoms: atoms(1, "a"), Moves: make([][]api.Move, 1), Final: []bool{true}, Within: math.MaxInt},
		"nodes of no atom":    {Atoms: make([]api.Node, 1), Nots: make([]api.Node, 1), Starts: []int{0}, Moves: [][]api.Move{{{Guards: []int{0, 0}}}}, Final: []bool{true}},
		"all of a node":       {Atoms: []api.Node{{Op: 9, Kind: "any", Conds: make([]api.Cond, 9), Lo: -1, Hi: 7, Kids: []int{3, 3}}}, Moves: make([][]api.Move, 1), Final: []bool{true}},
		"alike lists":         {Atoms: atoms(2, "a"), Nots: atoms(2, "b"), Starts: []int{1, 0, 1}, Moves: [][]api.Move{{{To: 1, Guards: []int{1, 0, 1}}, {To: 0}, {To: 1}}, nil}, Final: make([]bool, 2)},
	} {
		g := begun(t, m)
		if fmt.Sprintf("%+v", g.Machine()) != fmt.Sprintf("%+v", m) {
			t.Errorf("%s: the machine %+v became %+v", what, m, g.Machine())
		}
		knows(t, what, g, "0 @0 -0")
	}
}

// 13.1: an event comes

func TestExample(t *testing.T) {
	if got := fed(begun(t, made(t, "a ; b")), "a a b"); got != "- - 0.2,1.2" {
		t.Errorf("the example: %s", got)
	}
}

func TestMatches(t *testing.T) {
	for _, x := range []struct{ pattern, events, want string }{
		{"a", "a b a", "0 - 2"},
		{"any", "x y", "0 1"},
		{"a;b", "b a", "- -"},
		{"a;b", "a x x b", "- - - 0.3"},
		{"a;b;c", "a b c", "- - 0.1.2"},
		{"a|b;c", "a b c", "0 - 1.2"},
		// A run that goes on does not stay, nor does one at its end.
		{"a;b", "a b b", "- 0.1 -"},
		{"a;b;c", "a b b c c", "- - - 0.1.3 -"},
		{"a;a", "a a a a", "- 0.1 1.2 2.3"},
		{"a;any", "a a x", "- 0.1 1.2"},
		// Loops, and several ways on at once.
		{"a+", "a a a", "0 0.1,1 0.1.2,1.2,2"},
		{"a+;b", "a a b b", "- - 0.1.2,1.2 -"},
		{"a{2,3}", "a a a a", "- 0.1 0.1.2,1.2 1.2.3,2.3"},
		{"a;b?;c", "a b c", "- - 0.1.2"},
		{"a;b*;any", "a b b", "- 0.1 0.1.2"},
		{"a;(b|any);c", "a b c", "- - 0.1.2"},
		{"(a;b|a;c)", "a c b", "- 0.1 0.2"},
		{"(a;b|a;c;b)", "a c b", "- - 0.1.2,0.2"},
		{"(a;b;d|a;any;any)", "a b c d", "- - 0.1.2 0.1.3"},
		{"(a|any)", "a", "0"},
		{"(a|a);b", "a b", "- 0.1"},
		// Guards: what was seen since the last pick.
		{"a;!c;b", "a b", "- 0.1"},
		{"a;!c;b", "a x b", "- - 0.2"},
		{"a;!c;b", "a c b b", "- - - -"},
		{"a;!c;b", "a c x b", "- - - -"},
		{"a;!c;b", "c a b", "- - 1.2"},
		{"a;!c;b", "a c a b", "- - - 2.3"},
		{"a;!c;b", "a a c b", "- - - -"},
		{"a;!b;b", "a b", "- 0.1"},
		{"a;!any;b", "a x b", "- - -"},
		{"a;b;!c;d", "a c b d", "- - - 0.2.3"},
		{"a;b;!c;d", "a c b c d", "- - - - -"},
		{"a;b;!b;d", "a b d", "- - 0.1.2"},
		{"a;b;!b;d", "a b b d", "- - - -"},
		{"a;!c;b?;d", "a b c d", "- - - 0.1.3"},
		{"a;!c;b?;d", "a c b d", "- - - -"},
		{"a;!c;!d;b", "a c b d b", "- - - - -"},
		{"a;!c;!d;b", "a d b", "- - -"},
		{"a;!c;!d;b", "a x b", "- - 0.2"},
		{"a;!c;b | a;!d;b", "a d b", "- - 0.2"},
		{"a;!c;b | a;!d;b", "a c d b", "- - - -"},
		// A run that a guard keeps from one way stays for another one.
		{"a;(b?;!c;d|e)", "a c d e", "- - - 0.3"},
		// The Within: of the first event's stamp.
		{"a;b within 10", "a@5 b@15", "- 0.1"},
		{"a;b within 10", "a@5 b@16", "- -"},
		{"a;b within 10", "a@5 x@16 b@16", "- - -"},
		{"a;b;c within 10", "a@5 b@10 c@15", "- - 0.1.2"},
		{"a;b;c within 10", "a@5 b@10 c@16", "- - -"},
		{"a+ within 1", "a@1 a@2 a@3", "0 0.1,1 1.2,2"},
		{"a within 1", "a@1 a@9", "0 1"},
		{"a;b", "a@0 b@9223372036854775807", "- 0.1"},
		{"a;b within 549755813888", "a@0 b@549755813888", "- 0.1"},
		{"a;b within 549755813888", "a@0 b@549755813889", "- -"},
		{"a;b within 1", "a@9223372036854775806 b@9223372036854775807", "- 0.1"},
	} {
		if got := fed(begun(t, made(t, x.pattern)), x.events); got != x.want {
			t.Errorf("%s over %s: %s, want %s", x.pattern, x.events, got, x.want)
		}
	}
}

func TestFields(t *testing.T) {
	with := func(kind string, n int) api.Event {
		return api.Event{Kind: kind, Fields: []api.Field{{Name: "x", V: api.Value{Kind: api.Whole, N: n}}}}
	}
	g := begun(t, made(t, "a[x=1] ; !c[x>2] ; b[x<5]"))
	got := ""
	for _, e := range []api.Event{with("a", 2), with("a", 1), with("c", 2), with("b", 5), with("b", 4), with("a", 1), with("c", 3), with("b", 1)} {
		got += answer(g.Feed(e)) + " "
	}
	if got != "- - - - 1.4 - - - " {
		t.Errorf("by fields: %s", got)
	}
}

func TestWhatItKnows(t *testing.T) {
	for _, x := range []struct{ pattern, events, want string }{
		{"a;b", "", "0 @0 -0"},
		{"a;b", "x@7", "1 @7 -0"},
		{"a;b", "a@3 a@3 x@5", "3 @5 -0 0>0@3 1>0@3"},
		{"a;b", "a b@9", "2 @9 -0"},
		{"a", "a a", "2 @0 -0"},
		{"a;b+", "a@1 b@2 b@3", "3 @3 -0 0.1.2>1@1"},
		{"a;b within 3", "a@1 x@4", "2 @4 -0 0>0@1"},
		{"a;b within 3", "a@1 a@2 x@5", "3 @5 -0 1>0@2"},
		// Seen: each guard that an event fits, whether the run's state asks for it or not.
		{"a;!c;b;!d;e", "a c", "2 @0 -0 0>0@0!1"},
		{"a;!c;b;!d;e", "a d", "2 @0 -0 0>0@0!2"},
		{"a;!c;b;!d;e", "a c d x", "4 @0 -0 0>0@0!3"},
		{"a;!c;b;!any;e", "a x", "2 @0 -0 0>0@0!2"},
		{"a;!c;b;!a;e", "a x b a", "4 @0 -0 0.2>1@0!2 3>0@0"},
		{"a;!c;b;!d;e", "a d b", "3 @0 -0 0.2>1@0"},
		{"a;!b;b;c", "a b", "2 @0 -0 0.1>1@0"},
		{"a;!c;b", "a c b", "3 @0 -0 0>0@0!1"},
		// The order: Begin, then Picks, number by number, the shorter first, then State.
		{"(a;b|a;c;b|a;d;b)", "a", "1 @0 -0 0>0@0 0>2@0 0>5@0"},
		{"(a;x|a;c;x|a;d;x)", "a d c", "3 @0 -0 0>0@0 0.1>6@0 0.2>3@0"},
		{"(a;a;x|a;y;x|b;a)", "a b a", "3 @0 -0 0>3@0 0.2>1@0 2>0@0 2>3@0"},
		{"(a;(b;x|b;y)|a)", "a b", "2 @0 -0 0.1>1@0 0.1>3@0"},
	} {
		g := begun(t, made(t, x.pattern))
		fed(g, x.events)
		knows(t, x.pattern+" over "+x.events, g, x.want)
	}
}

func TestStampsThatFall(t *testing.T) {
	g := begun(t, made(t, "a;!c;b"))
	if got := fed(g, "a@-1 a@-9223372036854775808"); got != "E130 E130" {
		t.Errorf("stamps below 0 as the first: %s", got)
	}
	knows(t, "behind these", g, "0 @0 -0")
	if got := fed(g, "a@0 a@-1 c@5 b@4 a@5 c@4 b@5 b@-9223372036854775808"); got != "- E130 - E130 - E130 2.3 E130" {
		t.Errorf("stamps that fall: %s", got)
	}
	knows(t, "stamps that fall", g, "4 @5 -0 0>0@0!1")
	fed(g, "x@9223372036854775807")
	if got := fed(g, "a@9223372036854775806 a@9223372036854775807 a@0"); got != "E130 - E130" {
		t.Errorf("below the greatest stamp: %s", got)
	}
	// The last event's stamp is meant, whether there are runs or not.
	g = begun(t, made(t, "a;b within 2"))
	if got := fed(g, "a@1 x@9 a@8 a@9 b@9"); got != "- - E130 - 2.3" {
		t.Errorf("stamps that fall with no run: %s", got)
	}
}

func TestTooManyEvents(t *testing.T) {
	k := api.Track{Count: api.MaxIndex - 1, Stamp: 5, Runs: []api.Run{{Begin: 3, Picks: []int{3}}}}
	g := resumed(t, made(t, "a;b"), k)
	if got := fed(g, "b@6"); got != "3.549755813887" {
		t.Errorf("the last event that may be: %s", got)
	}
	knows(t, "full", g, "549755813888 @6 -0")
	if got := fed(g, "a@7 a@6 a@5 a@-1"); got != "E2 E2 E130 E130" {
		t.Errorf("behind the last event that may be: %s", got)
	}
	knows(t, "full", g, "549755813888 @6 -0")
}

func TestNilEngine(t *testing.T) {
	var g *engine.Engine
	for _, s := range []string{"a", "a@-1"} {
		if got := fed(g, s); got != "E1" {
			t.Errorf("Feed of a nil engine: %s", got)
		}
	}
	if k := g.Track(); shown(k) != "0 @0 -0" {
		t.Errorf("Track of a nil engine: %+v", k)
	}
	if m := g.Machine(); fmt.Sprintf("%+v", m) != fmt.Sprintf("%+v", api.Machine{}) {
		t.Errorf("Machine of a nil engine: %+v", m)
	}
}

// 13.1: what stays, and what is lost

func TestRunsOfTooManyPicks(t *testing.T) {
	m := made(t, "a+")
	g := begun(t, m)
	fed(g, strings.Repeat("a ", 15))
	if k := g.Track(); k.Lost != 0 || len(k.Runs) != 15 || len(k.Runs[0].Picks) != 15 {
		t.Errorf("15 events: %s", shown(k))
	}
	l, _ := g.Feed(told("a"))
	if len(l) != 16 || !slices.Equal(l[0].Picks, row(0, 16)) || !slices.Equal(l[15].Picks, []int{15}) {
		t.Errorf("matches of the 16th: %v", l)
	}
	if k := g.Track(); k.Lost != 1 || len(k.Runs) != 15 || k.Runs[0].Begin != 1 {
		t.Errorf("16 events: %s", shown(k))
	}
	l, _ = g.Feed(told("a"))
	if k := g.Track(); len(l) != 16 || l[0].Picks[0] != 1 || k.Lost != 2 || k.Runs[0].Begin != 2 {
		t.Errorf("17 events: %v, %s", l, shown(k))
	}
	// What stands still is not lost, however long it is.
	fed(g, "x x")
	if k := g.Track(); k.Lost != 2 || len(k.Runs) != 15 {
		t.Errorf("and two others: %s", shown(k))
	}
	// One that could not go on anyway is none of the lost.
	g = begun(t, made(t, "(a{8,8}){2,2}"))
	if got := fed(g, strings.Repeat("a ", 16)); !strings.HasSuffix(got, " "+points(row(0, 16))) {
		t.Errorf("a row of 16: %s", got)
	}
	if k := g.Track(); k.Lost != 0 || len(k.Runs) != 15 {
		t.Errorf("a row of 16: %s", shown(k))
	}
}

func TestTooManyRuns(t *testing.T) {
	g := begun(t, made(t, "a;b"))
	fed(g, strings.Repeat("a ", 64))
	if k := g.Track(); k.Lost != 0 || len(k.Runs) != 64 {
		t.Errorf("64 runs: %s", shown(k))
	}
	fed(g, "a a")
	if k := g.Track(); k.Lost != 2 || len(k.Runs) != 64 || k.Runs[63].Begin != 63 || k.Count != 66 {
		t.Errorf("two more: %s", shown(k))
	}
	l, e := g.Feed(told("b"))
	if len(l) != 64 || e != api.OK || !slices.Equal(l[0].Picks, []int{0, 66}) || !slices.Equal(l[63].Picks, []int{63, 66}) {
		t.Errorf("their matches: %v, %v", l, e)
	}
	knows(t, "all went on", g, "67 @0 -2")
	// A match is found also of a run that is lost at once.
	g = begun(t, made(t, "a;b | c+"))
	fed(g, strings.Repeat("a ", 64))
	if got := fed(g, "c c"); got != "64 65" {
		t.Errorf("matches of runs that are lost: %s", got)
	}
	if k := g.Track(); k.Lost != 2 || len(k.Runs) != 64 {
		t.Errorf("they are lost: %s", shown(k))
	}
}

// full is a track of so many runs of one pick each, in the state 0, of a machine with Moves from there.
func full(n int) api.Track {
	k := api.Track{Count: 100}
	for i := range n {
		k.Runs = append(k.Runs, api.Run{Begin: 20 + i, Picks: []int{20 + i}})
	}
	return k
}

func TestLongRunsTakeNoRoom(t *testing.T) {
	m := api.Machine{Atoms: append(atoms(1, "z"), atoms(1, "b")...), Starts: []int{1}, Moves: [][]api.Move{{{To: 0}}, {{To: 1}}}, Final: make([]bool, 2)}
	k := full(63)
	k.Runs = slices.Insert(k.Runs, 0, api.Run{Begin: 1, Picks: row(1, 15), State: 1})
	g := resumed(t, m, k)
	fed(g, "x")
	if k := g.Track(); k.Lost != 0 || len(k.Runs) != 64 {
		t.Errorf("nothing happens: %s", shown(k))
	}
	// The first one goes on, and is lost; one begins, and there is room for it.
	fed(g, "b")
	if k := g.Track(); k.Lost != 1 || len(k.Runs) != 64 || k.Runs[0].Begin != 20 || k.Runs[63].Begin != 101 {
		t.Errorf("a run of 16 picks: %s", shown(k))
	}
}

func TestRunsWithoutAMoveTakeNoRoom(t *testing.T) {
	m := api.Machine{Atoms: atoms(2, "b"), Starts: []int{0, 1}, Moves: [][]api.Move{{{To: 1}}, nil}, Final: make([]bool, 2)}
	g := resumed(t, m, full(64))
	fed(g, "b")
	knows(t, "64 runs at an end", g, "101 @0 -0 100>0@0")
}

func TestAlikeRunsTakeNoRoom(t *testing.T) {
	k := api.Track{Count: 100}
	for i := range 32 {
		k.Runs = append(k.Runs, api.Run{Begin: i, Picks: []int{i}}, api.Run{Begin: i, Picks: []int{i}, State: 1})
	}
	m := api.Machine{Atoms: atoms(4, "a"), Starts: []int{3, 3}, Moves: [][]api.Move{{{To: 2}, {To: 2}}, {{To: 2}}, {{To: 0}}, {{To: 2}}}, Final: []bool{false, false, true, true}}
	g := resumed(t, m, k)
	l, _ := g.Feed(told("a"))
	if k := g.Track(); k.Lost != 0 || len(k.Runs) != 33 || len(l) != 33 {
		t.Errorf("runs that are come by twice: %s, %d matches", shown(k), len(l))
	}
}

func TestRunsThatBecomeAlike(t *testing.T) {
	m := api.Machine{Atoms: atoms(2, "b"), Nots: append(atoms(1, "x"), atoms(1, "y")...), Moves: [][]api.Move{{{To: 1}}, nil}, Final: []bool{false, true}}
	k := api.Track{Count: 9, Runs: []api.Run{{Begin: 2, Picks: []int{2}}, {Begin: 2, Picks: []int{2}, Seen: 1}, {Begin: 2, Picks: []int{2}, Seen: 2}, {Begin: 2, Picks: []int{2, 3}}}}
	g := resumed(t, m, k)
	fed(g, "x")
	knows(t, "two alike", g, "10 @0 -0 2>0@0!1 2>0@0!3 2.3>0@0!1")
	if got := fed(g, "b"); got != "2.3.10,2.10" {
		t.Errorf("matches of runs that are alike: %s", got)
	}
	// What is seen may put runs in another order.
	k.Runs = []api.Run{{Begin: 2, Picks: []int{2}, Seen: 1}, {Begin: 2, Picks: []int{2}, Seen: 2}}
	g = resumed(t, m, k)
	fed(g, "x y")
	knows(t, "all alike", g, "11 @0 -0 2>0@0!3")
}

func TestLostOnesAreCounted(t *testing.T) {
	m := made(t, "a;b")
	for lost, want := range map[int]int{0: 1, 7: 8, api.MaxIndex - 1: api.MaxIndex, api.MaxIndex: api.MaxIndex} {
		k := full(64)
		k.Lost = lost
		g := resumed(t, m, k)
		fed(g, "x a")
		if k := g.Track(); k.Lost != want {
			t.Errorf("one more than %d: %d", lost, k.Lost)
		}
	}
	// Both reasons, several at once: 64 runs go on in two ways each, 3 of them to 16 picks, and 2 begin.
	k := api.Track{Count: 2000}
	for i := range 64 {
		n := 1
		if i < 3 {
			n = 15
		}
		k.Runs = append(k.Runs, api.Run{Begin: 20 * i, Picks: row(20*i, n)})
	}
	m = api.Machine{Atoms: atoms(2, "a"), Starts: []int{0, 1}, Moves: [][]api.Move{{{To: 0}, {To: 1}}, {{To: 0}, {To: 1}}}, Final: make([]bool, 2)}
	for lost, want := range map[int]int{0: 66, api.MaxIndex - 66: api.MaxIndex, api.MaxIndex - 65: api.MaxIndex, api.MaxIndex - 3: api.MaxIndex} {
		k.Lost = lost
		g := resumed(t, m, k)
		fed(g, "a")
		if k := g.Track(); len(k.Runs) != 64 || k.Lost != want || k.Runs[0].Begin != 60 || k.Runs[63].Begin != 680 || k.Runs[63].State != 1 {
			t.Errorf("66 more than %d: %s", lost, shown(k))
		}
	}
}

// What goes as it is too late is not lost, and leaves its room.
func TestLateRunsAreNotLost(t *testing.T) {
	m := made(t, "a;b within 5")
	k := full(64)
	g := resumed(t, m, k)
	fed(g, "a@5")
	if k := g.Track(); k.Lost != 1 || len(k.Runs) != 64 {
		t.Errorf("just in time: %s", shown(k))
	}
	fed(g, "a@6")
	knows(t, "too late", g, "102 @6 -1 101>0@6")
}
