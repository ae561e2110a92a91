package nfa

import (
	"fmt"
	"math"
	"slices"
	"strings"
	"testing"
	"unsafe"

	"auspice/api"
	"auspice/parse"
)

// pattern is the pattern of a text.
func pattern(t *testing.T, s string) api.Pattern {
	t.Helper()
	p, at, e := parse.Pattern(s)
	if e != api.OK {
		t.Fatalf("%q is no pattern: %d, %v", s, at, e)
	}
	return p
}

// made is the machine of a text.
func made(t *testing.T, s string) api.Machine {
	t.Helper()
	m, e := Make(pattern(t, s))
	if e != api.OK {
		t.Fatalf("Make of %q: %v", s, e)
	}
	return m
}

// shown is a machine as a text: the kinds of the atoms, those of the guards behind !; the starts; the moves, as 1>2 or past guards 1>2!3!4; the final ones; the Within behind /, if there is one.
func shown(m api.Machine) string {
	var l []string
	for _, n := range m.Atoms {
		l = append(l, n.Kind)
	}
	for _, n := range m.Nots {
		l = append(l, "!"+n.Kind)
	}
	l = append(l, "|")
	for _, i := range m.Starts {
		l = append(l, fmt.Sprint(i))
	}
	l = append(l, "|")
	for i, moves := range m.Moves {
		for _, v := range moves {
			s := fmt.Sprintf("%d>%d", i, v.To)
			for _, g := range v.Guards {
				s += fmt.Sprintf("!%d", g)
			}
			l = append(l, s)
		}
	}
	l = append(l, "|")
	for i, is := range m.Final {
		if is {
			l = append(l, fmt.Sprint(i))
		}
	}
	if m.Within != 0 {
		l = append(l, fmt.Sprintf("/%d", m.Within))
	}
	return strings.Join(l, " ")
}

// same tells whether two machines are the same; a nil list is an empty one.
func same(a, b api.Machine) bool {
	return fmt.Sprintf("%+v", a) == fmt.Sprintf("%+v", b)
}

// falls fails, if there is a machine of a pattern, or another error.
func falls(t *testing.T, what string, p api.Pattern, want api.Errno) {
	t.Helper()
	if m, e := Make(p); !same(m, api.Machine{}) || e != want {
		t.Errorf("Make of %.100s: %+v, %v, want %v", what, m, e, want)
	}
}

// 12.1

func TestExample(t *testing.T) {
	atom := func(kind string) api.Node { return api.Node{Op: api.NodeAtom, Kind: kind} }
	want := api.Machine{Atoms: []api.Node{atom("a"), atom("b")}, Nots: []api.Node{atom("c")}, Starts: []int{0}, Moves: [][]api.Move{{{To: 1, Guards: []int{0}}}, {{To: 1}}}, Final: []bool{false, true}}
	m, e := Make(pattern(t, "a ; !c ; b+"))
	if !same(m, want) || e != api.OK {
		t.Errorf("Make: %+v, %v", m, e)
	}
}

func TestMachines(t *testing.T) {
	for s, want := range map[string]string{
		"a":           "a | 0 | | 0",
		"any":         " | 0 | | 0",
		"a within 9":  "a | 0 | | 0 /9",
		"a;b":         "a b | 0 | 0>1 | 1",
		"a;b;c":       "a b c | 0 | 0>1 1>2 | 2",
		"a|b":         "a b | 0 1 | | 0 1",
		"a|b;c|d":     "a b c d | 0 1 3 | 1>2 | 0 2 3",
		"(a|b);(c|d)": "a b c d | 0 1 | 0>2 0>3 1>2 1>3 | 2 3",
		// Loops.
		"a+":           "a | 0 | 0>0 | 0",
		"(a;b)+":       "a b | 0 | 0>1 1>0 | 1",
		"(a|b)+":       "a b | 0 1 | 0>0 0>1 1>0 1>1 | 0 1",
		"a*;b":         "a b | 0 1 | 0>0 0>1 | 1",
		"b;a*":         "b a | 0 | 0>1 1>1 | 0 1",
		"a?;b":         "a b | 0 1 | 0>1 | 1",
		"b;a?":         "b a | 0 | 0>1 | 0 1",
		"a;b*;c":       "a b c | 0 | 0>1 0>2 1>1 1>2 | 2",
		"a;b?;c?;d":    "a b c d | 0 | 0>1 0>2 0>3 1>2 1>3 2>3 | 3",
		"a{1,1}":       "a | 0 | | 0",
		"a{3,3}":       "a a a | 0 | 0>1 1>2 | 2",
		"a{1,3}":       "a a a | 0 | 0>1 1>2 | 0 1 2",
		"a{2,4}":       "a a a a | 0 | 0>1 1>2 2>3 | 1 2 3",
		"a{0,3};b":     "a a a b | 0 3 | 0>1 0>3 1>2 1>3 2>3 | 3",
		"b;a{0,2}":     "b a a | 0 | 0>1 1>2 | 0 1 2",
		"a{2,}":        "a a | 0 | 0>1 1>1 | 1",
		"a{3,}":        "a a a | 0 | 0>1 1>2 2>2 | 2",
		"a{1,}":        "a | 0 | 0>0 | 0",
		"a{0,};b":      "a b | 0 1 | 0>0 0>1 | 1",
		"(a+)+":        "a | 0 | 0>0 | 0",
		"(a+){2,}":     "a a | 0 | 0>0 0>1 1>1 | 1",
		"(a;b){2,3}":   "a b a b a b | 0 | 0>1 1>2 2>3 3>4 4>5 | 3 5",
		"(a;b){2,}":    "a b a b | 0 | 0>1 1>2 2>3 3>2 | 3",
		"(a{1,2}){2,}": "a a a a | 0 | 0>1 0>2 1>2 2>2 2>3 3>2 | 2 3",
		"(a{2,}){1,2}": "a a a a | 0 | 0>1 1>1 1>2 2>3 3>3 | 1 3",
		"(a?;b)+":      "a b | 0 1 | 0>1 1>0 1>1 | 1",
		"(a|b+);c*":    "a b c | 0 1 | 0>2 1>1 1>2 2>2 | 0 1 2",
		"(a|a*);b":     "a a b | 0 1 2 | 0>2 1>1 1>2 | 2",
		// Guards.
		"a;!b;c":         "a c !b | 0 | 0>1!0 | 1",
		"a;!b;!c;d":      "a d !b !c | 0 | 0>1!0!1 | 1",
		"a;!b;c;!d;e":    "a c e !b !d | 0 | 0>1!0 1>2!1 | 2",
		"a;!b;b?;!c;c":   "a b c !b !c | 0 | 0>1!0 0>2!0!1 1>2!1 | 2",
		"a?;!b;c":        "a c !b | 0 1 | 0>1!0 | 1",
		"a;!b;c?":        "a c !b | 0 | 0>1!0 | 0 1",
		"(a?;!b;c)+":     "a c !b | 0 1 | 0>1!0 1>0 1>1!0 | 1",
		"(a;!b;c?)+":     "a c !b | 0 | 0>0!0 0>1!0 1>0 | 0 1",
		"(a;!b;c){2,2}":  "a c a c !b !b | 0 | 0>1!0 1>2 2>3!1 | 3",
		"(a;!b;c){2,3}":  "a c a c a c !b !b !b | 0 | 0>1!0 1>2 2>3!1 3>4 4>5!2 | 3 5",
		"(a?;!b;c){2,}":  "a c a c !b !b | 0 1 | 0>1!0 1>2 1>3!1 2>3!1 3>2 3>3!1 | 3",
		"(a?;!b;c)*;d":   "a c d !b | 0 1 2 | 0>1!0 1>0 1>1!0 1>2 | 2",
		"(a|b);!c;(d|e)": "a b d e !c | 0 1 | 0>2!0 0>3!0 1>2!0 1>3!0 | 2 3",
		"a;(b?;!x;c?);d": "a b c d !x | 0 | 0>1 0>2!0 0>3!0 1>2!0 1>3!0 2>3 | 3",
		// Ways by, past guards or not: the shorter set first, and the lesser number.
		"a;(b?|c?;!x;d?);e":                   "a b c d e !x | 0 | 0>1 0>2 0>3!0 0>4 0>4!0 1>4 2>3!0 2>4!0 3>4 | 4",
		"a;(b?|b?);c":                         "a b b c | 0 | 0>1 0>2 0>3 1>3 2>3 | 3",
		"a;(b?;!x;b?|b?;!y;b?);c":             "a b b b b c !x !y | 0 | 0>1 0>2!0 0>3 0>4!1 0>5!0 0>5!1 1>2!0 1>5!0 2>5 3>4!1 3>5!1 4>5 | 5",
		"a;(b?|b?;!x;b?);(b?|b?;!y;b?);c":     "a b b b b b b c !x !y | 0 | 0>1 0>2 0>3!0 0>4 0>4!0 0>5 0>5!0 0>6!0!1 0>6!1 0>7 0>7!0 0>7!0!1 0>7!1 1>4 1>5 1>6!1 1>7 1>7!1 2>3!0 2>4!0 2>5!0 2>6!0!1 2>7!0 2>7!0!1 3>4 3>5 3>6!1 3>7 3>7!1 4>7 5>6!1 5>7!1 6>7 | 7",
		"(b?|b?;!x;b?);a;(b?|b?;!y;b?)":       "b b b a b b b !x !y | 0 1 2 3 | 0>3 1>2!0 1>3!0 2>3 3>4 3>5 3>6!1 5>6!1 | 3 4 5 6",
		"((b?|b?;!x;b?);a)+":                  "b b b a !x | 0 1 2 3 | 0>3 1>2!0 1>3!0 2>3 3>0 3>1 3>2!0 3>3 3>3!0 | 3",
		"(a;(b?|b?;!x;b?))+":                  "a b b b !x | 0 | 0>0 0>0!0 0>1 0>2 0>3!0 1>0 2>0!0 2>3!0 3>0 | 0 1 2 3",
		"(b?;!x;b?;a;b?;!y;b?)+ within 12345": "b b a b b !x !y | 0 1 2 | 0>1!0 0>2!0 1>2 2>0!1 2>1!0!1 2>2!0!1 2>3 2>4!1 3>0!1 3>1!0!1 3>2!0!1 3>4!1 4>0 4>1!0 4>2!0 | 2 3 4 /12345",
	} {
		if m, e := Make(pattern(t, s)); shown(m) != want || e != api.OK {
			t.Errorf("Make of %q: %s, %v, want %s", s, shown(m), e, want)
		}
	}
}

func TestAtomsOfMachines(t *testing.T) {
	x := api.Cond{Name: "x", Op: api.Ge, V: api.Value{Kind: api.Whole, N: 3}}
	y := api.Cond{Name: "y", Op: api.Ne, V: api.Value{Kind: api.Text, S: "s"}}
	z := api.Cond{Name: "z", Op: api.Lt, V: api.Value{Kind: api.Real, F: 0.5}}
	m := made(t, "(a[x>=3] ; !any[y!='s', z<1/2] ; any){2,2} ; !b ; c[x>=3, x>=3]")
	a, any, not := api.Node{Op: api.NodeAtom, Kind: "a", Conds: []api.Cond{x}}, api.Node{Op: api.NodeAtom}, api.Node{Op: api.NodeAtom, Conds: []api.Cond{y, z}}
	want := []api.Node{a, any, a, any, {Op: api.NodeAtom, Kind: "c", Conds: []api.Cond{x, x}}}
	if nots := []api.Node{not, not, {Op: api.NodeAtom, Kind: "b"}}; fmt.Sprint(m.Atoms) != fmt.Sprint(want) || fmt.Sprint(m.Nots) != fmt.Sprint(nots) {
		t.Errorf("the atoms %v and the guards' %v", m.Atoms, m.Nots)
	}
}

// The nodes stand in another order than the unrolled pattern's atoms.
func TestNodesInAnotherOrder(t *testing.T) {
	l := []api.Node{{Op: api.NodeAtom, Kind: "c"}, {Op: api.NodeAtom, Kind: "g"}, {Op: api.NodeAtom, Kind: "b"}, {Op: api.NodeNot, Kids: []int{1}}, {Op: api.NodeAtom, Kind: "a"}, {Op: api.NodeLoop, Lo: 0, Hi: 2, Kids: []int{2}}, {Op: api.NodeSeq, Kids: []int{4, 5, 3, 0}}}
	if m, e := Make(api.Pattern{Nodes: l}); shown(m) != "a b b c !g | 0 | 0>1 0>3!0 1>2 1>3!0 2>3!0 | 3" || e != api.OK {
		t.Errorf("Make: %s, %v", shown(m), e)
	}
}

func TestPatternsThatMayNotBe(t *testing.T) {
	a := api.Node{Op: api.NodeAtom, Kind: "a"}
	for what, p := range map[string]api.Pattern{
		"none": {}, "a star": {Nodes: []api.Node{a, {Op: api.NodeLoop, Hi: -1, Kids: []int{0}}}}, "two wholes": {Nodes: []api.Node{a, a}}, "itself": {Nodes: []api.Node{{Op: api.NodeSeq, Kids: []int{0, 0}}}}, "a kid of none": {Nodes: []api.Node{{Op: api.NodeLoop, Lo: 1, Hi: -1}}},
		"a kid above": {Nodes: []api.Node{a, {Op: api.NodeAlt, Kids: []int{0, 7}}}}, "a guard": {Nodes: []api.Node{a, {Op: api.NodeNot, Kids: []int{0}}}}, "a Within below": {Nodes: []api.Node{a}, Within: -1}, "a great Hi": {Nodes: []api.Node{a, {Op: api.NodeLoop, Lo: 1, Hi: math.MaxInt, Kids: []int{0}}}},
		"a great Lo": {Nodes: []api.Node{a, {Op: api.NodeLoop, Lo: math.MaxInt, Hi: -1, Kids: []int{0}}}}, "no op": {Nodes: make([]api.Node, 64)},
	} {
		falls(t, what, p, api.ErrTree)
	}
	for _, n := range []int{65, 100, 10000} {
		falls(t, "too many nodes", api.Pattern{Nodes: make([]api.Node, n)}, api.ErrLong)
	}
	// Too big, and none that may be.
	p := pattern(t, "(a{8,8}){8,8} ; b")
	p.Within = -1
	falls(t, "a big one with a Within below", p, api.ErrTree)
}

func TestBigPatterns(t *testing.T) {
	for s, atoms := range map[string]int{
		"(a{8,8}){8,8}": 64, "(a{8,}){8,8}": 64, "(a{8,8}){8,}": 64, "(a{7,7}){8,8} ; (b{2,2}){4,4}": 64, "((a{4,4}){4,4}){4,4}": 64, "(a{8,8}){7,7} ; b{8,}": 64, "a{8,8} | (a{8,8}){7,7}": 64,
		"(a{8,8}){1,7} ; b{3,8}": 64, "(a;b){8,8} ; (a;b;c;a;b;c){8,8}": 64, "((a;!b;c){8,8}){4,4}": 64, "(a{0,8};b){7,7} ; b": 64,
	} {
		p := pattern(t, s)
		if m, e := Make(p); len(m.Atoms) != atoms || len(m.Moves) != atoms || len(m.Final) != atoms || e != api.OK {
			t.Errorf("Make of %q: %d atoms, %v", s, len(m.Atoms), e)
		}
		for _, more := range []string{"(" + s + ") ; a", "a | " + s, "a? ; (" + s + ")", "(" + s + "){2,2}", "(" + s + "){1,2}", "(" + s + ") ; !x ; a"} {
			falls(t, more, pattern(t, more), api.ErrBig)
		}
		guarded := "x? ; !x ; " + strings.Replace(s, "a", "b ; !x ; b", 1)
		falls(t, guarded, pattern(t, guarded), api.ErrBig)
	}
	for s, guards := range map[string]int{
		"(a" + strings.Repeat(";!b", 8) + ";c){8,8}": 64, "(a" + strings.Repeat(";!b", 16) + ";c){4,4}": 64, "((a;!b;!b;c){8,8}){4,4}": 64, "(a" + strings.Repeat(";!b", 8) + ";c){1,8}": 64, "(a" + strings.Repeat(";!b", 8) + ";c){8,}": 64, "((a;!b;!b;!b;!b;c){2,2}){8,8}": 64, "(a" + strings.Repeat(";!b", 21) + ";c){3,3};!b;d": 64,
	} {
		m, e := Make(pattern(t, s))
		if len(m.Nots) != guards || e != api.OK {
			t.Errorf("Make of %q: %d guards, %v", s, len(m.Nots), e)
		}
		for _, more := range []string{"(" + s + ") ; !a ; a", "(" + s + ") | a ; !a ; a"} {
			falls(t, more, pattern(t, more), api.ErrBig)
		}
	}
	for _, s := range []string{strings.Repeat("(", 11) + "a" + strings.Repeat("){8,8}", 11), strings.Repeat("(", 9) + "a;!b;a" + strings.Repeat("){1,8}", 9), strings.Repeat("(", 9) + "a;!b;a" + strings.Repeat("){8,}", 9), "(((" + strings.Repeat("a;", 58) + "a){8,8}){8,8}){8,8}", "(" + strings.Repeat("a|", 60) + "a){2,2}"} {
		falls(t, s, pattern(t, s), api.ErrBig)
	}
}

// ladder is a pattern of so many things that may be or not, of which so many are stars, and an atom at the end: there is a move for each two, and one for each star.
func ladder(may, stars int) string {
	return strings.Repeat("a*;", stars) + strings.Repeat("a?;", may-stars) + "b"
}

func TestManyMoves(t *testing.T) {
	moves := func(m api.Machine) (n int) {
		for _, l := range m.Moves {
			n += len(l)
		}
		return n
	}
	for stars := range 32 {
		m, e := Make(pattern(t, ladder(31, stars)))
		want := 32*31/2 + stars
		if want <= api.MaxMoves && (moves(m) != want || e != api.OK) || want > api.MaxMoves && (!same(m, api.Machine{}) || e != api.ErrBig) {
			t.Errorf("Make of %d moves: %d, %v", want, moves(m), e)
		}
	}
	// Alike moves count once: those of a Loop of a Loop, and those that several ways by lead to.
	for s, n := range map[string]int{
		"(" + strings.Repeat("a|", 21) + "a)+": 22 * 22, "((" + strings.Repeat("a|", 21) + "a)+)+": 22 * 22, "(a|" + ladder(20, 20) + ")+": 21*20/2 + 20 + 2*22, "(" + strings.Repeat("a|", 22) + "a)+": -1, "(((" + strings.Repeat("a|", 22) + "a)+)+)+": -1,
	} {
		m, e := Make(pattern(t, s))
		if n < 0 && e != api.ErrBig || n >= 0 && (moves(m) != n || e != api.OK) {
			t.Errorf("Make of %q: %d moves, %v, want %d", s, moves(m), e, n)
		}
	}
	// So many ways by that there are moves without end.
	by := strings.Repeat("(a?|a?;!b;a?);", 5)
	for _, s := range []string{"(" + by + "a){3,3}", "((" + by + "a){3,3})+", "(" + by + "a;a){1,3}"} {
		falls(t, s, pattern(t, s), api.ErrBig)
	}
}

func TestAnyMachines(t *testing.T) {
	r := draws()
	right, big := 0, 0
	for range 20000 {
		s := []string{anyText(r, r.Intn(6)), wideText(r)}[r.Intn(2)]
		p, _, e := parse.Pattern(s)
		if e != api.OK {
			continue
		}
		m, e := Make(p)
		want, f := asked(p)
		if !same(m, want) || e != f {
			t.Fatalf("Make of %q: %s, %v, want %s, %v", s, shown(m), e, shown(want), f)
		}
		if e == api.OK {
			right++
		} else {
			big++
		}
	}
	if right < 5000 || big < 500 {
		t.Errorf("there were only %d machines, and %d patterns were too big", right, big)
	}
}

// 12.2

// at are events of these kinds, one behind the other, with the stamps 0, 1, 2 ..
func at(kinds string) (l []api.Event) {
	for i, k := range strings.Fields(kinds) {
		l = append(l, api.Event{Stamp: i, Kind: k})
	}
	return l
}

// takes fails, if a row is taken, and ought not to be, or the other way round.
func takes(t *testing.T, m api.Machine, events []api.Event, want bool, picks ...int) {
	t.Helper()
	if Takes(m, events, picks) != want {
		t.Errorf("Takes of %s over %v, %v: %v", shown(m), events, picks, !want)
	}
}

func TestTakes(t *testing.T) {
	m := made(t, "a ; !c ; b+")
	takes(t, m, at("a b"), true, 0, 1)
	takes(t, m, at("a b b"), true, 0, 1, 2)
	takes(t, m, at("a b b"), true, 0, 2)
	takes(t, m, at("x a x b x b x"), true, 1, 3, 5)
	takes(t, m, at("c a b c b c"), true, 1, 2, 4)
	takes(t, m, at("a b"), false, 0)
	takes(t, m, at("a b"), false, 1)
	takes(t, m, at("b a"), false, 0, 1)
	takes(t, m, at("a a"), false, 0, 1)
	takes(t, m, at("a c b"), false, 0, 2)
	takes(t, m, at("a x c x b b"), false, 0, 4, 5)
	takes(t, m, at("a b c"), false, 0, 1, 2)
	takes(t, m, at("c"), false, 0)
	// A guard's atom is held against what is not picked alone, and that it is picked is no matter.
	m = made(t, "a ; !b ; b")
	takes(t, m, at("a b"), true, 0, 1)
	takes(t, m, at("a b b"), true, 0, 1)
	takes(t, m, at("a b b"), false, 0, 2)
	m = made(t, "a ; !any ; b")
	takes(t, m, at("a b"), true, 0, 1)
	takes(t, m, at("a x b"), false, 0, 2)
	// It is enough if one of several ways is free.
	m = made(t, "a ; (b? | b? ; !x ; b?) ; c")
	takes(t, m, at("a x c"), true, 0, 2)
	m = made(t, "a ; (b? ; !y ; b? | b? ; !x ; b?) ; c")
	takes(t, m, at("a x c"), true, 0, 2)
	takes(t, m, at("a y c"), true, 0, 2)
	takes(t, m, at("a x y c"), false, 0, 3)
	// Two guards: both must hold.
	m = made(t, "a ; !x ; !y ; c")
	takes(t, m, at("a z c"), true, 0, 2)
	takes(t, m, at("a x c"), false, 0, 2)
	takes(t, m, at("a y c"), false, 0, 2)
	// It may stand at several atoms at once.
	m = made(t, "(a | a ; a) ; a ; b")
	takes(t, m, at("a a b"), true, 0, 1, 2)
	takes(t, m, at("a a a b"), true, 0, 1, 2, 3)
	takes(t, m, at("a b"), false, 0, 1)
	takes(t, m, at("a a a a b"), false, 0, 1, 2, 3, 4)
	// Conditions.
	m = made(t, "a[x>1] ; !any[x=0] ; any[y='s']")
	l := at("a b c a")
	l[0].Fields = []api.Field{{Name: "x", V: api.Value{Kind: api.Real, F: 1.5}}}
	l[1].Fields = []api.Field{{Name: "x", V: api.Value{Kind: api.Whole, N: 0}}, {Name: "y", V: api.Value{Kind: api.Text, S: "s"}}}
	l[2].Fields = []api.Field{{Name: "y", V: api.Value{Kind: api.Text, S: "s"}}}
	l[3].Fields = l[1].Fields
	takes(t, m, l, true, 0, 1)
	takes(t, m, l, false, 0, 2)
	takes(t, m, slices.Concat(l[:1], l[2:]), true, 0, 1)
	takes(t, m, slices.Concat(l[:1], l[2:]), true, 0, 2)
	takes(t, m, slices.Concat(l[2:], l[:2]), false, 0, 3)
}

func TestTakesWithin(t *testing.T) {
	stamped := func(stamps ...int) (l []api.Event) {
		for _, n := range stamps {
			l = append(l, api.Event{Stamp: n, Kind: "a"})
		}
		return l
	}
	m := made(t, "a ; a ; a? within 9")
	takes(t, m, stamped(5, 14), true, 0, 1)
	takes(t, m, stamped(5, 15), false, 0, 1)
	takes(t, m, stamped(5, 5), true, 0, 1)
	takes(t, m, stamped(5, 14, 14), true, 0, 1, 2)
	takes(t, m, stamped(5, 14, 15), false, 0, 1, 2)
	takes(t, m, stamped(5, 14, 15), false, 0, 2)
	takes(t, m, stamped(5, 14, 15), true, 1, 2)
	takes(t, m, stamped(0, 100, 109, 200), true, 1, 2)
	// The last one less the first one, whatever is between, also where stamps fall.
	takes(t, m, stamped(5, 1000, 14), true, 0, 1, 2)
	takes(t, m, stamped(5, -1000, 15), false, 0, 1, 2)
	takes(t, m, stamped(1000, 0), true, 0, 1)
	takes(t, m, stamped(-5, 4), true, 0, 1)
	takes(t, m, stamped(-5, 5), false, 0, 1)
	// Nothing goes round.
	takes(t, m, stamped(math.MinInt, math.MaxInt), false, 0, 1)
	takes(t, m, stamped(-1, math.MaxInt), false, 0, 1)
	takes(t, m, stamped(math.MinInt, 0), false, 0, 1)
	takes(t, m, stamped(math.MaxInt, math.MinInt), true, 0, 1)
	takes(t, m, stamped(math.MaxInt, -2), true, 0, 1)
	takes(t, m, stamped(0, math.MinInt), true, 0, 1)
	takes(t, m, stamped(math.MaxInt-9, math.MaxInt), true, 0, 1)
	takes(t, m, stamped(math.MinInt, math.MinInt+10), false, 0, 1)
	m.Within = 0
	takes(t, m, stamped(math.MinInt, math.MaxInt), true, 0, 1)
	takes(t, m, stamped(0, math.MaxInt), true, 0, 1)
	one := made(t, "a within 1")
	takes(t, one, stamped(math.MinInt), true, 0)
	m.Within = math.MaxInt
	takes(t, m, stamped(0, math.MaxInt), true, 0, 1)
	takes(t, m, stamped(-1, math.MaxInt), false, 0, 1)
	// No Within of a pattern, but it has a meaning.
	m.Within = -3
	takes(t, m, stamped(0, 0), false, 0, 1)
	takes(t, m, stamped(0, -2), false, 0, 1)
	takes(t, m, stamped(0, -3), true, 0, 1)
	takes(t, m, stamped(math.MaxInt, math.MinInt), true, 0, 1)
	m.Within = math.MinInt
	takes(t, m, stamped(1, math.MinInt), true, 0, 1)
	takes(t, m, stamped(1, math.MinInt+2), false, 0, 1)
	takes(t, m, stamped(0, math.MinInt), true, 0, 1)
}

func TestTakesOfWrongPicks(t *testing.T) {
	m, l := made(t, "a{1,3} | a{4,}"), at("a a a a a")
	takes(t, m, l, true, 0, 1, 2)
	takes(t, m, l, true, 0, 1, 2, 3, 4)
	for _, picks := range [][]int{nil, {}, {-1}, {5}, {0, 0}, {1, 0}, {0, 2, 1}, {0, 1, 1}, {-1, 0}, {4, 5}, {0, 5}, {math.MinInt}, {math.MaxInt}, {math.MinInt, math.MaxInt}, {0, math.MaxInt}, {0, 1, 2, 3, 4, 5}, {2, 1, 0}, {0, -1, 1}} {
		takes(t, m, l, false, picks...)
	}
	takes(t, m, nil, false)
	takes(t, m, nil, false, 0)
}

func TestTakesOfWrongMachines(t *testing.T) {
	l := at("a b b c")
	for what, change := range map[string]func(m *api.Machine){
		"no Moves": func(m *api.Machine) { m.Moves = nil }, "too few Moves": func(m *api.Machine) { m.Moves = m.Moves[:2] }, "too many Moves": func(m *api.Machine) { m.Moves = append(m.Moves, nil) },
		"no Final": func(m *api.Machine) { m.Final = nil }, "too few Final": func(m *api.Machine) { m.Final = m.Final[:2] }, "too many Final": func(m *api.Machine) { m.Final = append(m.Final, true) },
		"no Atoms": func(m *api.Machine) { m.Atoms = nil }, "too few Atoms": func(m *api.Machine) { m.Atoms = m.Atoms[:2] }, "too many Atoms": func(m *api.Machine) { m.Atoms = append(m.Atoms, m.Atoms[0]) },
		"a start below": func(m *api.Machine) { m.Starts = append(m.Starts, -1) }, "a start above": func(m *api.Machine) { m.Starts = append(m.Starts, 3) }, "a far start": func(m *api.Machine) { m.Starts = append(m.Starts, math.MaxInt) },
		"a To below": func(m *api.Machine) { m.Moves[2] = []api.Move{{To: -1}} }, "a To above": func(m *api.Machine) { m.Moves[2] = []api.Move{{To: 3}} }, "a far To": func(m *api.Machine) { m.Moves[2] = []api.Move{{To: math.MinInt}} },
		"a guard below": func(m *api.Machine) { m.Moves[2] = []api.Move{{To: 0, Guards: []int{0, -1}}} }, "a guard above": func(m *api.Machine) { m.Moves[2] = []api.Move{{To: 0, Guards: []int{0, 1}}} }, "a far guard": func(m *api.Machine) { m.Moves[2] = []api.Move{{To: 0, Guards: []int{math.MaxInt}}} },
		"no guards, but named": func(m *api.Machine) { m.Nots = nil }, "none": func(m *api.Machine) { *m = api.Machine{} },
	} {
		m := made(t, "a ; !x ; b+ ; c")
		takes(t, m, l, true, 0, 1, 3)
		change(&m)
		if Takes(m, l, []int{0, 1, 3}) {
			t.Errorf("Takes of a machine with %s", what)
		}
		if Takes(m, l, nil) || Takes(m, nil, []int{0}) {
			t.Errorf("Takes of a machine with %s, and wrong picks", what)
		}
	}
	// Nodes that are no atoms fit nothing.
	m := made(t, "a ; !x ; b")
	m.Nots[0].Op = api.NodeNot
	takes(t, m, at("a x b"), true, 0, 2)
	m.Atoms[1].Op = 0
	takes(t, m, at("a b"), false, 0, 1)
}

// 12.3

// anyEvents are so many events.
func anyEvents(n int, draw func(n int) int) (l []api.Event) {
	stamp := 0
	for range n {
		e := api.Event{Stamp: stamp, Kind: []string{"a", "b", "c"}[draw(3)]}
		if draw(3) > 0 {
			e.Fields = []api.Field{{Name: "x", V: api.Value{Kind: api.Whole, N: draw(3)}}}
		}
		l = append(l, e)
		stamp += draw(3)
	}
	return l
}

func TestARowIsTakenJustIfItIsAMatch(t *testing.T) {
	r := draws()
	taken, not := 0, 0
	for range 3000 {
		s := anyText(r, r.Intn(5))
		if r.Intn(3) == 0 {
			s += fmt.Sprintf(" within %d", 1+r.Intn(6))
		}
		p, _, e := parse.Pattern(s)
		if e != api.OK {
			continue
		}
		m, e := Make(p)
		if e != api.OK {
			continue
		}
		events := anyEvents(6, r.Intn)
		for set := range 1 << len(events) {
			var picks []int
			for i := range events {
				if set>>i&1 == 1 {
					picks = append(picks, i)
				}
			}
			want := isMatch(p, events, picks)
			if got := Takes(m, events, picks); got != want {
				t.Fatalf("Takes of %q over %v, %v: %v, want %v", s, events, picks, got, want)
			}
			if want {
				taken++
			} else {
				not++
			}
		}
	}
	if taken < 5000 || not < 5000 {
		t.Errorf("only %d rows were taken, %d were not", taken, not)
	}
}

// R3: what is handed in is not changed, what is answered shares no memory with it, nor with another answer.

func TestArgumentsStay(t *testing.T) {
	r := draws()
	for range 2000 {
		p, _, e := parse.Pattern(anyText(r, 3))
		if e != api.OK {
			continue
		}
		was := fmt.Sprintf("%#v", p)
		m, _ := Make(p)
		if now := fmt.Sprintf("%#v", p); now != was {
			t.Fatalf("%s became %s", was, now)
		}
		l, picks := anyEvents(6, r.Intn), []int{0, 2, 3}
		was = fmt.Sprintf("%#v %#v %#v", m, l, picks)
		Takes(m, l, picks)
		if now := fmt.Sprintf("%#v %#v %#v", m, l, picks); now != was {
			t.Fatalf("%s became %s", was, now)
		}
	}
}

func TestMachinesAreNewMemory(t *testing.T) {
	b := []byte("kind")
	s := unsafe.String(&b[0], len(b))
	cond := api.Cond{Name: s, Op: api.Eq, V: api.Value{Kind: api.Text, S: s}}
	p := api.Pattern{Nodes: []api.Node{{Op: api.NodeAtom, Kind: s, Conds: []api.Cond{cond}}, {Op: api.NodeAtom, Kind: s, Conds: []api.Cond{cond}}, {Op: api.NodeNot, Kids: []int{1}}, {Op: api.NodeAtom, Kind: s, Conds: []api.Cond{cond}}, {Op: api.NodeSeq, Kids: []int{0, 2, 3}}, {Op: api.NodeLoop, Lo: 2, Hi: -1, Kids: []int{4}}}}
	m, e := Make(p)
	was := fmt.Sprintf("%+v", m)
	copy(b, "????")
	for _, n := range p.Nodes {
		clear(n.Conds)
		clear(n.Kids)
	}
	if now := fmt.Sprintf("%+v", m); now != was || e != api.OK || !strings.Contains(was, "kind") {
		t.Errorf("%s became %s, %v", was, now, e)
	}
}

func TestListsOfOneMachineShareNothing(t *testing.T) {
	const s = "((a[x=1] ; (b? | b? ; !x[x=1] ; !y ; b?) ; c){2,})+"
	want := made(t, s)
	for i := range want.Atoms {
		m := made(t, s)
		clear(m.Atoms[i].Conds[:cap(m.Atoms[i].Conds)])
		m.Atoms[i] = want.Atoms[i]
		for k := range m.Moves[i] {
			g := m.Moves[i][k].Guards
			for n := range g[:cap(g)] {
				g[:cap(g)][n] = 7
			}
			m.Moves[i][k] = want.Moves[i][k]
		}
		clear(m.Moves[i][:cap(m.Moves[i])])
		m.Moves[i] = want.Moves[i]
		if !same(m, want) {
			t.Errorf("as the lists of the atom %d were changed, all became %s", i, shown(m))
		}
	}
	for g := range want.Nots {
		m := made(t, s)
		clear(m.Nots[g].Conds[:cap(m.Nots[g].Conds)])
		m.Nots[g] = want.Nots[g]
		if !same(m, want) {
			t.Errorf("as the lists of the guard %d were changed, all became %s", g, shown(m))
		}
	}
}
