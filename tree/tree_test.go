package tree

import (
	"fmt"
	"math"
	"math/rand"
	"slices"
	"strings"
	"testing"
	"unsafe"

	"auspice/api"
	"auspice/lex"
)

// stands fails, if a pattern may not be, or is not shown so.
func stands(t *testing.T, p api.Pattern, want string) {
	t.Helper()
	if e := Check(p); e != api.OK {
		t.Errorf("Check of %s: %v", want, e)
	}
	if s, e := Show(p); s != want || e != api.OK {
		t.Errorf("Show: %s, %v, want %s", s, e, want)
	}
}

// falls fails, if a pattern may be, or another error is told.
func falls(t *testing.T, what string, p api.Pattern, want api.Errno) {
	t.Helper()
	if e := Check(p); e != want {
		t.Errorf("Check of %s: %v, want %v", what, e, want)
	}
	if s, e := Show(p); s != "" || e != want {
		t.Errorf("Show of %s: %q, %v, want %v", what, s, e, want)
	}
}

// nested are so many nodes within one another, Loops but for the deepest one.
func nested(n int, q plan) plan {
	for range n - 1 {
		q = loop(1, -1, q)
	}
	return q
}

// row is a Seq of so many nodes in all.
func row(n int) plan {
	q := seq()
	for range n - 1 {
		q.kids = append(q.kids, atom("a"))
	}
	return q
}

// 10.1

func TestExample(t *testing.T) {
	q := seq(atom("a"), not(atom("c")), atom("b", is("x", api.Gt, aWhole(3))))
	stands(t, until(q.pattern(), 9), "a ; !c ; b[x>3] within 9")
	// As the example tells them: the atoms first, then the guard.
	p := api.Pattern{Within: 9, Nodes: []api.Node{
		{Op: api.NodeAtom, Kind: "a"}, {Op: api.NodeAtom, Kind: "b", Conds: []api.Cond{is("x", api.Gt, aWhole(3))}}, {Op: api.NodeAtom, Kind: "c"},
		{Op: api.NodeNot, Kids: []int{2}}, {Op: api.NodeSeq, Kids: []int{0, 3, 1}}}}
	stands(t, p, "a ; !c ; b[x>3] within 9")
}

func TestAtomsAreShown(t *testing.T) {
	for want, q := range map[string]plan{
		"a": atom("a"), "any": atom(""), "abcdefghijklmnop": atom("abcdefghijklmnop"), "anyone": atom("anyone"), "withi": atom("withi"), "nan": atom("nan"),
		"any[x=1]":                               atom("", is("x", api.Eq, aWhole(1))),
		"a[x!=0]":                                atom("a", is("x", api.Ne, aWhole(0))),
		"a[x<-1]":                                atom("a", is("x", api.Lt, aWhole(-1))),
		"a[x<=999999999999999999]":               atom("a", is("x", api.Le, aWhole(1e18-1))),
		"a[x>-999999999999999999]":               atom("a", is("x", api.Gt, aWhole(1-1e18))),
		"a[x>=10]":                               atom("a", is("x", api.Ge, aWhole(10))),
		"a[x=#3ff0000000000000]":                 atom("a", is("x", api.Eq, aReal(1))),
		"a[x=#0000000000000000]":                 atom("a", is("x", api.Eq, aReal(0))),
		"a[x=#8000000000000000]":                 atom("a", is("x", api.Eq, aReal(math.Copysign(0, -1)))),
		"a[x=#0000000000000001]":                 atom("a", is("x", api.Eq, aReal(5e-324))),
		"a[x=#7ff0000000000000]":                 atom("a", is("x", api.Eq, aReal(math.Inf(1)))),
		"a[x=#fff0000000000000]":                 atom("a", is("x", api.Eq, aReal(math.Inf(-1)))),
		"a[x=#7ff8000000000001]":                 atom("a", is("x", api.Eq, aReal(math.NaN()))),
		"a[x=#c00abcdef0000000]":                 atom("a", is("x", api.Eq, aReal(math.Float64frombits(0xc00abcdef0000000)))),
		"a[x='']":                                atom("a", is("x", api.Eq, aText(""))),
		"a[x='b c']":                             atom("a", is("x", api.Eq, aText("b c"))),
		"a[x='\x00\xff\t#\"']":                   atom("a", is("x", api.Eq, aText("\x00\xff\t#\""))),
		"a[any=1, within=2]":                     atom("a", is("any", api.Eq, aWhole(1)), is("within", api.Eq, aWhole(2))),
		"a[y=1, x>2, x<#3ff0000000000000]":       atom("a", is("y", api.Eq, aWhole(1)), is("x", api.Gt, aWhole(2)), is("x", api.Lt, aReal(1))),
		"a[x=1, x=1, x=1, x=1]":                  atom("a", slices.Repeat([]api.Cond{is("x", api.Eq, aWhole(1))}, 4)...),
		"a[abcdefghijklmnop=1]":                  atom("a", is("abcdefghijklmnop", api.Eq, aWhole(1))),
		"a[x='" + strings.Repeat("s", 64) + "']": atom("a", is("x", api.Eq, aText(strings.Repeat("s", 64)))),
	} {
		stands(t, q.pattern(), want)
		stands(t, until(q.pattern(), 1), want+" within 1")
	}
}

func TestNodesAreShown(t *testing.T) {
	a, b, c, d := atom("a"), atom("b"), atom("c"), atom("d")
	for want, q := range map[string]plan{
		"a ; b": seq(a, b), "a ; b ; c ; a": seq(a, b, c, a), "a | b": alt(a, b), "a | b | c | a": alt(a, b, c, a),
		"a ; !b ; c": seq(a, not(b), c), "a ; !b ; !b ; c ; !d[x=1] ; !any ; a": seq(a, not(b), not(b), c, not(atom("d", is("x", api.Eq, aWhole(1)))), not(atom("")), a),
		"a+": loop(1, -1, a), "a{2,}": loop(2, -1, a), "a{8,}": loop(8, -1, a), "a{1,1}": loop(1, 1, a), "a{2,2}": loop(2, 2, a), "a{1,8}": loop(1, 8, a), "a{8,8}": loop(8, 8, a),
		"a* ; b": seq(loop(0, -1, a), b), "a? ; b": seq(loop(0, 1, a), b), "a{0,2} ; b": seq(loop(0, 2, a), b), "a{0,8} ; b": seq(loop(0, 8, a), b), "b ; any[x=1]*": seq(b, loop(0, -1, atom("", is("x", api.Eq, aWhole(1))))),
		"(a | b) ; c": seq(alt(a, b), c), "a ; (b | c)": seq(a, alt(b, c)), "a ; b | c ; d": alt(seq(a, b), seq(c, d)), "a | b ; c": alt(a, seq(b, c)),
		"(a | b) | c": alt(alt(a, b), c), "a | (b | c)": alt(a, alt(b, c)), "(a ; b) ; c": seq(seq(a, b), c), "a ; (b ; c)": seq(a, seq(b, c)),
		"(a ; b)+": loop(1, -1, seq(a, b)), "(a | b)+": loop(1, -1, alt(a, b)), "(a+)+": loop(1, -1, loop(1, -1, a)), "((a{2,3}){4,5}){6,7}": loop(6, 7, loop(4, 5, loop(2, 3, a))),
		"a+ | b+": alt(loop(1, -1, a), loop(1, -1, b)), "a+ ; b{2,}": seq(loop(1, -1, a), loop(2, -1, b)), "(a ; !b ; c){2,3}": loop(2, 3, seq(a, not(b), c)),
		"(a ; !b ; c) ; !d ; (a | b ; !c ; d)+": seq(seq(a, not(b), c), not(d), loop(1, -1, alt(a, seq(b, not(c), d)))),
		"(a* | b?) ; !c ; d":                    seq(alt(loop(0, -1, a), loop(0, 1, b)), not(c), d),
	} {
		stands(t, q.pattern(), want)
		stands(t, until(q.pattern(), api.MaxIndex), want+" within 549755813888")
	}
}

func TestLimits(t *testing.T) {
	for n := 3; n <= api.MaxParts; n++ {
		stands(t, row(n).pattern(), strings.Repeat("a ; ", n-2)+"a")
	}
	for n := api.MaxParts + 1; n < 70; n++ {
		falls(t, "too many nodes", row(n).pattern(), api.ErrLong)
	}
	for n := 3; n < 20; n++ {
		for what, q := range map[string]plan{"Loops": nested(n, atom("a")), "a Seq of Loops": seq(atom("a"), nested(n-1, atom("b"))), "Loops of a guard": nested(n-2, seq(atom("a"), not(atom("b")), atom("c")))} {
			if e := Check(q.pattern()); (e == api.OK) != (n <= api.MaxDeep) || e != api.OK && e != api.ErrTree {
				t.Errorf("Check of %s, %d within one another: %v", what, n, e)
			}
		}
	}
	for n := -3; n < 12; n++ {
		for m := -3; m < 12; m++ {
			p := seq(atom("a"), loop(n, m, atom("b"))).pattern()
			right := n >= 0 && n <= 8 && (m == -1 || m >= 1 && m <= 8 && n <= m)
			if e := Check(p); (e == api.OK) != right || e != api.OK && e != api.ErrTree {
				t.Errorf("Check of a loop %d to %d times: %v", n, m, e)
			}
		}
	}
	for n, want := range map[int]api.Errno{0: api.OK, 1: api.OK, api.MaxIndex: api.OK, api.MaxIndex + 1: api.ErrTree, math.MaxInt: api.ErrTree, -1: api.ErrTree, math.MinInt: api.ErrTree} {
		if e := Check(until(atom("a").pattern(), n)); e != want {
			t.Errorf("Check with a Within of %d: %v", n, e)
		}
	}
}

func TestTooLongIsToldFirst(t *testing.T) {
	for _, n := range []int{65, 100, 10000} {
		falls(t, "nodes of nothing", api.Pattern{Nodes: make([]api.Node, n)}, api.ErrLong)
		falls(t, "nodes of nothing, and a Within", api.Pattern{Nodes: make([]api.Node, n), Within: -1}, api.ErrLong)
	}
	for n := range 65 {
		falls(t, "nodes of nothing", api.Pattern{Nodes: make([]api.Node, n)}, api.ErrTree)
	}
}

func TestWhatCanBeEmptyMayNotBe(t *testing.T) {
	a, b := atom("a"), atom("b")
	many, may, some := loop(0, -1, a), loop(0, 1, b), loop(0, 3, a)
	for what, q := range map[string]plan{
		"a star": many, "a may-be": may, "a{0,3}": some, "a row of these": seq(many, may, some), "a row with a guard": seq(many, not(a), may), "an Alt": alt(a, many), "an Alt ahead": alt(may, b),
		"a Loop of a star": loop(1, -1, many), "a Loop of a may-be": loop(2, 3, may), "a Loop within": seq(a, loop(1, -1, seq(many, not(b), may))), "a Loop of an Alt": seq(a, loop(0, 1, alt(a, some))),
		"an Alt of rows": alt(seq(a, b), seq(many, may)), "a row in a row": seq(seq(many, many), may),
	} {
		falls(t, what, q.pattern(), api.ErrTree)
	}
	for want, q := range map[string]plan{
		"a* ; a": seq(many, a), "b? ; a ; a*": seq(may, a, many), "(a | a*) ; b": seq(alt(a, many), b), "b ; (a* ; b?)": seq(b, seq(many, may)), "(a* ; b)+": loop(1, -1, seq(many, b)), "a* ; !a ; b? ; !b ; b": seq(many, not(a), may, not(b), b),
	} {
		stands(t, q.pattern(), want)
	}
}

func TestNodesThatMayNotBe(t *testing.T) {
	a, b := atom("a"), atom("b")
	with := func(q plan, change func(n *api.Node)) plan {
		change(&q.n)
		return q
	}
	for what, q := range map[string]plan{
		"no op": {}, "an op below": {n: api.Node{Op: -1}}, "an op above": {n: api.Node{Op: 6}}, "a great op": {n: api.Node{Op: math.MaxInt, Kind: "a"}}, "a least op": {n: api.Node{Op: math.MinInt, Kind: "a"}},
		"a Seq of none": seq(), "a Seq of one": seq(a), "a guard ahead": seq(not(a), b), "a guard behind": seq(a, not(b)), "a guard ahead of two": seq(not(a), a, b), "a guard behind two": seq(a, b, not(a)), "guards alone": seq(not(a), not(b)),
		"an Alt of none": alt(), "an Alt of one": alt(a), "an Alt with a guard": alt(a, not(b)), "an Alt with a guard ahead": alt(not(a), b), "an Alt with a guard between": alt(a, not(b), a), "an Alt of guards": alt(not(a), not(b)),
		"a Loop of none": {n: api.Node{Op: api.NodeLoop, Lo: 1, Hi: -1}}, "a Loop of two": {api.Node{Op: api.NodeLoop, Lo: 1, Hi: -1}, []plan{a, b}}, "a Loop of a guard": loop(1, -1, not(a)), "a Loop of a guard in a Seq": seq(a, loop(1, 2, not(a)), b),
		"a guard of none": seq(a, plan{n: api.Node{Op: api.NodeNot}}, b), "a guard of two": seq(a, plan{api.Node{Op: api.NodeNot}, []plan{a, b}}, b), "a guard of a Seq": seq(a, not(seq(a, b)), b), "a guard of a guard": seq(a, not(not(a)), b),
		"a guard of an Alt": seq(a, not(alt(a, b)), b), "a guard of a Loop": seq(a, not(loop(1, -1, a)), b), "a guard alone": not(a),
		"an atom with a kid": {api.Node{Op: api.NodeAtom, Kind: "a"}, []plan{b}}, "an atom with a Lo": with(a, func(n *api.Node) { n.Lo = 1 }), "an atom with a Hi": with(a, func(n *api.Node) { n.Hi = -1 }),
		"a Seq with a Kind": with(seq(a, b), func(n *api.Node) { n.Kind = "a" }), "a Seq with Conds": with(seq(a, b), func(n *api.Node) { n.Conds = make([]api.Cond, 1) }), "a Seq with a Lo": with(seq(a, b), func(n *api.Node) { n.Lo = 1 }), "a Seq with a Hi": with(seq(a, b), func(n *api.Node) { n.Hi = 1 }),
		"an Alt with a Kind": with(alt(a, b), func(n *api.Node) { n.Kind = "a" }), "an Alt with Conds": with(alt(a, b), func(n *api.Node) { n.Conds = make([]api.Cond, 1) }), "an Alt with a Lo": with(alt(a, b), func(n *api.Node) { n.Lo = -1 }), "an Alt with a Hi": with(alt(a, b), func(n *api.Node) { n.Hi = -1 }),
		"a Loop with a Kind": with(loop(1, -1, a), func(n *api.Node) { n.Kind = "a" }), "a Loop with Conds": with(loop(1, -1, a), func(n *api.Node) { n.Conds = []api.Cond{is("x", api.Eq, aWhole(1))} }),
		"a guard with a Kind": seq(a, with(not(b), func(n *api.Node) { n.Kind = "b" }), a), "a guard with Conds": seq(a, with(not(b), func(n *api.Node) { n.Conds = make([]api.Cond, 1) }), a), "a guard with a Lo": seq(a, with(not(b), func(n *api.Node) { n.Lo = 1 }), a), "a guard with a Hi": seq(a, with(not(b), func(n *api.Node) { n.Hi = 1 }), a),
		"a great Lo": loop(math.MaxInt, math.MaxInt, a), "a great Hi": loop(1, math.MaxInt, a), "a least Lo": loop(math.MinInt, -1, a), "a least Hi": loop(1, math.MinInt, a),
	} {
		falls(t, what, q.pattern(), api.ErrTree)
		falls(t, what+", within others", seq(a, alt(b, q), b).pattern(), api.ErrTree)
	}
}

func TestAtomsThatMayNotBe(t *testing.T) {
	for _, kind := range []string{"any", "within", "A", "0", "_a", "a-b", "a b", " ", "a\x00", "\xff", "abcdefghijklmnopq", strings.Repeat("a", 1000)} {
		falls(t, "the kind "+kind, atom(kind).pattern(), api.ErrTree)
		falls(t, "the guard of "+kind, seq(atom("a"), not(atom(kind)), atom("a")).pattern(), api.ErrTree)
	}
	one := is("x", api.Eq, aWhole(1))
	wrong := []api.Cond{{}, is("x", api.Eq, api.Value{})}
	for _, name := range []string{"", "A", "0", "_", "x ", "x\x00", "abcdefghijklmnopq"} {
		wrong = append(wrong, is(name, api.Eq, aWhole(1)))
	}
	for _, op := range []int{0, -1, 7, math.MaxInt, math.MinInt} {
		wrong = append(wrong, is("x", op, aWhole(1)))
	}
	for _, v := range []api.Value{
		{Kind: 0}, {Kind: 0, N: 1}, {Kind: 4}, {Kind: -1}, {Kind: math.MaxInt, S: "s"},
		aWhole(1e18), aWhole(-1e18), aWhole(math.MaxInt), aWhole(math.MinInt), aWhole(math.MinInt + 1),
		{Kind: api.Whole, F: 1}, {Kind: api.Whole, N: 1, F: math.Copysign(0, -1)}, {Kind: api.Whole, N: 1, S: "s"}, {Kind: api.Whole, F: math.NaN()},
		aReal(math.Float64frombits(0x7ff8000000000000)), aReal(math.Float64frombits(0xfff8000000000001)), aReal(math.Float64frombits(0x7ff0000000000001)), aReal(math.Float64frombits(math.MaxUint64)),
		{Kind: api.Real, F: 1, N: 1}, {Kind: api.Real, F: 1, S: "s"}, {Kind: api.Real, F: math.NaN(), N: -1},
		aText("'"), aText("\n"), aText("\r"), aText("a'"), aText("'a"), aText("a\nb"), aText("a\rb"), aText("\xff'"), aText("ä\n"), aText("0123456789'"), aText("0123456789\r"), aText(strings.Repeat("s", 63) + "'"), aText(strings.Repeat("s", 65)), aText(strings.Repeat("s", 10000)),
		{Kind: api.Text, S: "s", N: 1}, {Kind: api.Text, S: "s", F: 1}, {Kind: api.Text, F: math.Copysign(0, -1)}, {Kind: api.Text, F: math.NaN()},
	} {
		wrong = append(wrong, is("x", api.Eq, v))
	}
	for _, c := range wrong {
		for _, l := range [][]api.Cond{{c}, {one, c}, {c, one}, {one, one, one, c}} {
			if e := Check(atom("a", l...).pattern()); e != api.ErrTree {
				t.Errorf("Check of an atom with %v: %v", c, e)
			}
		}
	}
	for _, n := range []int{5, 6, 1000} {
		falls(t, "too many conditions", atom("a", slices.Repeat([]api.Cond{one}, n)...).pattern(), api.ErrTree)
	}
}

func TestNodesThatAreNoTree(t *testing.T) {
	a := api.Node{Op: api.NodeAtom, Kind: "a"}
	two := func(kids ...int) api.Node { return api.Node{Op: api.NodeSeq, Kids: kids} }
	more := func(kid int) api.Node { return api.Node{Op: api.NodeLoop, Lo: 1, Hi: -1, Kids: []int{kid}} }
	for what, l := range map[string][]api.Node{
		"none": nil, "none, but not nil": {}, "two wholes": {a, a}, "one aside": {a, a, more(0)}, "one aside between": {a, a, a, two(0, 2)}, "one aside of two": {a, a, two(0, 1), a, a, two(3, 4)},
		"a kid named twice": {a, two(0, 0)}, "a kid named twice, and another one": {a, a, two(0, 1, 0)}, "a kid of two": {a, more(0), two(0, 1)}, "a kid of two rows": {a, a, two(0, 1), a, two(0, 3)},
		"itself": {more(0)}, "itself and another one": {a, two(0, 1)}, "one behind": {more(1), a}, "one behind in a row": {a, two(0, 2), a}, "one another": {more(1), more(0)}, "the whole within": {a, two(0, 2), two(1, 0)},
		"below": {more(-1)}, "below, beside one": {a, two(0, -1)}, "above": {a, two(0, 9)}, "far above": {a, two(0, math.MaxInt)}, "far below": {a, two(math.MinInt, 0)}, "one too many": {a, two(0, 2)}, "all kids again": {a, a, two(0, 1), two(0, 1, 2)},
	} {
		falls(t, what, api.Pattern{Nodes: l}, api.ErrTree)
	}
	many := make([]int, 100000)
	falls(t, "very many kids", api.Pattern{Nodes: []api.Node{a, two(many...)}}, api.ErrTree)
	stands(t, api.Pattern{Nodes: []api.Node{a, {Op: api.NodeAtom, Kind: "b", Kids: []int{}, Conds: []api.Cond{}}, two(1, 0)}}, "b ; a")
	stands(t, api.Pattern{Nodes: []api.Node{a, a, more(1), {Op: api.NodeAtom}, two(0, 3, 2)}}, "a ; any ; a+")
}

// long is a pattern whose text has so many bytes, of 1000 to 5000.
func long(n int) api.Pattern {
	q := seq()
	for range 40 {
		q.kids = append(q.kids, atom("a", is("x", api.Eq, aText("")), is("y", api.Ne, aText(""))))
	}
	left := n - len(q.shown())
	for _, k := range q.kids {
		for i := range k.n.Conds {
			size := min(left, api.MaxText)
			k.n.Conds[i].V.S = strings.Repeat("s", size)
			left -= size
		}
	}
	return q.pattern()
}

func TestLongTexts(t *testing.T) {
	for _, n := range []int{1000, 4000, api.MaxSource - 1, api.MaxSource, api.MaxSource + 1, api.MaxSource + 2, 5000} {
		p := long(n)
		if e := Check(p); e != api.OK {
			t.Fatalf("Check of a pattern of %d bytes: %v", n, e)
		}
		s, e := Show(p)
		if n <= api.MaxSource && (len(s) != n || e != api.OK) || n > api.MaxSource && (s != "" || e != api.ErrLong) {
			t.Errorf("Show of a pattern of %d bytes: %d bytes, %v", n, len(s), e)
		}
	}
	p := until(long(api.MaxSource-9), 1)
	if s, e := Show(p); len(s) != api.MaxSource || e != api.OK {
		t.Errorf("Show with a Within: %d bytes, %v", len(s), e)
	}
	p.Within = 10
	if s, e := Show(p); s != "" || e != api.ErrLong || Check(p) != api.OK {
		t.Errorf("Show with a Within too long: %d bytes, %v", len(s), e)
	}
}

func TestAnyPatterns(t *testing.T) {
	r := draws()
	right := 0
	for range 20000 {
		q := anyPlan(r, 1+r.Intn(7))
		p := mixed(r, q.pattern())
		if len(p.Nodes) > api.MaxParts {
			falls(t, "any pattern", p, api.ErrLong)
			continue
		}
		if q.least() == 0 {
			falls(t, q.shown(), p, api.ErrTree)
			continue
		}
		right++
		stands(t, p, q.shown())
		if _, _, e := lex.Scan(q.shown()); e != api.OK {
			t.Errorf("what is shown is not of tokens: %s", q.shown())
		}
	}
	if right < 5000 {
		t.Errorf("only %d patterns might be", right)
	}
}

// change changes something in a pattern.
func change(r *rand.Rand, p *api.Pattern) {
	n := &p.Nodes[r.Intn(len(p.Nodes))]
	some := []int{-1, 0, 1, 2, 8, 9, r.Intn(len(p.Nodes)), len(p.Nodes), math.MaxInt, math.MinInt}
	one := func() int { return some[r.Intn(len(some))] }
	switch r.Intn(12) {
	case 0:
		n.Op = r.Intn(7)
	case 1:
		n.Kind = []string{"", "a", "any", "within", "A", "abcdefghijklmnopq"}[r.Intn(6)]
	case 2:
		n.Conds = append(n.Conds, is("x", 1+r.Intn(6), []api.Value{aWhole(one()), aReal(1), aText("s"), {Kind: one()}}[r.Intn(4)]))
	case 3:
		n.Conds = nil
	case 4:
		n.Lo = one()
	case 5:
		n.Hi = one()
	case 6:
		if len(n.Kids) > 0 {
			n.Kids[r.Intn(len(n.Kids))] = one()
		}
	case 7:
		n.Kids = append(n.Kids, one())
	case 8:
		if len(n.Kids) > 0 {
			n.Kids = n.Kids[:len(n.Kids)-1]
		}
	case 9:
		r.Shuffle(len(n.Kids), func(i, j int) { n.Kids[i], n.Kids[j] = n.Kids[j], n.Kids[i] })
	case 10:
		i, j := r.Intn(len(p.Nodes)), r.Intn(len(p.Nodes))
		p.Nodes[i], p.Nodes[j] = p.Nodes[j], p.Nodes[i]
	case 11:
		p.Nodes = append(p.Nodes, *n)
	}
}

func TestChangedPatterns(t *testing.T) {
	r := draws()
	right, wrong := 0, 0
	for range 100000 {
		p := anyPlan(r, 1+r.Intn(5)).pattern()
		for range 1 + r.Intn(2) {
			change(r, &p)
		}
		if len(p.Nodes) > api.MaxParts {
			continue
		}
		if !mayBe(p) {
			wrong++
			falls(t, "a changed pattern", p, api.ErrTree)
			continue
		}
		right++
		stands(t, p, planned(p, len(p.Nodes)-1).shown())
	}
	if right < 10000 || wrong < 10000 {
		t.Errorf("only %d patterns might be, %d might not", right, wrong)
	}
}

// 10.2

// unlike are patterns no two of which are the same.
func unlike() (l []api.Pattern) {
	a, b := atom("a"), atom("b")
	for _, q := range []plan{a, b, atom(""), atom("a", is("x", api.Eq, aWhole(1))), atom("a", is("x", api.Eq, aReal(1))), atom("a", is("x", api.Eq, aText("1"))), atom("a", is("x", api.Ne, aWhole(1))), atom("a", is("y", api.Eq, aWhole(1))), atom("", is("x", api.Eq, aWhole(1))),
		atom("a", is("x", api.Eq, aReal(0))), atom("a", is("x", api.Eq, aReal(math.Copysign(0, -1)))), atom("a", is("x", api.Eq, aReal(math.NaN()))), atom("a", is("x", api.Eq, aWhole(0))), atom("a", is("x", api.Eq, aWhole(-1))),
		atom("a", is("x", api.Eq, aWhole(1)), is("y", api.Eq, aWhole(1))), atom("a", is("y", api.Eq, aWhole(1)), is("x", api.Eq, aWhole(1))), atom("a", is("x", api.Eq, aWhole(1)), is("x", api.Eq, aWhole(1))),
		seq(a, b), seq(b, a), seq(a, a), seq(a, b, a), seq(a, seq(b, a)), seq(seq(a, b), a), alt(a, b), alt(b, a), alt(a, alt(b, a)), alt(alt(a, b), a), alt(a, b, a), seq(a, not(b), a), seq(a, not(a), a), seq(a, not(b), not(b), a),
		loop(1, -1, a), loop(2, -1, a), loop(1, 1, a), loop(1, 2, a), loop(2, 2, a), loop(1, -1, loop(1, -1, a)), loop(1, -1, b), loop(1, -1, seq(a, b)), loop(1, -1, alt(a, b)), seq(loop(1, -1, a), b), seq(a, loop(1, -1, b)), alt(a, seq(b, a)), seq(alt(a, b), a)} {
		l = append(l, q.pattern(), until(q.pattern(), 1), until(q.pattern(), 10))
	}
	n := api.MaxSource + 500
	other := long(n)
	other.Nodes[len(other.Nodes)-2].Kind = "z"
	return append(l, long(1000), long(n), until(long(n), 1), long(n+1), other)
}

func TestSame(t *testing.T) {
	l := unlike()
	for i, a := range l {
		for j, b := range l {
			if Same(a, b) != (i == j) {
				x, _ := Show(a)
				y, _ := Show(b)
				t.Errorf("Same of %q and %q: %v", x, y, i != j)
			}
		}
	}
}

func TestSameWhereverTheNodesStand(t *testing.T) {
	r := draws()
	for range 2000 {
		q := anyPlan(r, 5)
		p := q.pattern()
		if !Same(p, mixed(r, p)) || !Same(mixed(r, p), p) {
			t.Errorf("Same of %s, with the nodes in another order: false", q.shown())
		}
		o := anyPlan(r, 2)
		want := q.shown() == o.shown() && q.least() > 0 || (q.least() == 0 || len(p.Nodes) > api.MaxParts) && o.least() == 0
		if Same(p, o.pattern()) != want || Same(o.pattern(), p) != want {
			t.Errorf("Same of %s and %s: %v", q.shown(), o.shown(), !want)
		}
	}
}

func TestSameOfPatternsThatMayNotBe(t *testing.T) {
	none := []api.Pattern{{}, {Within: 1}, until(atom("a").pattern(), -1), atom("any").pattern(), loop(0, -1, atom("a")).pattern(), row(65).pattern(), {Nodes: make([]api.Node, 100)}, {Nodes: []api.Node{{Op: api.NodeLoop, Kids: []int{0}}}}}
	for _, a := range none {
		for _, b := range none {
			if !Same(a, b) {
				t.Errorf("Same of %v and %v, which may not be: false", a, b)
			}
		}
		for _, b := range unlike() {
			if Same(a, b) || Same(b, a) {
				t.Errorf("Same of %v, which may not be, and one that may: true", a)
			}
		}
	}
}

func TestAtom(t *testing.T) {
	e := api.Event{Session: 1, Seq: 2, Stamp: 3, Kind: "a", Fields: []api.Field{{Name: "s", V: aText("b")}, {Name: "x", V: aWhole(3)}, {Name: "y", V: aReal(2.5)}, {Name: "z", V: aReal(math.NaN())}}}
	for _, q := range []plan{
		atom("a"), atom(""), atom("a", is("x", api.Eq, aWhole(3))), atom("a", is("x", api.Eq, aReal(3))), atom("", is("x", api.Gt, aWhole(2))), atom("a", is("x", api.Lt, aWhole(4))), atom("a", is("x", api.Le, aWhole(3))), atom("a", is("x", api.Ge, aWhole(3))), atom("a", is("x", api.Ne, aWhole(4))),
		atom("a", is("y", api.Gt, aWhole(2))), atom("a", is("y", api.Lt, aReal(math.Inf(1)))), atom("a", is("s", api.Eq, aText("b"))), atom("a", is("s", api.Lt, aText("ba"))), atom("a", is("s", api.Ne, aWhole(0))), atom("a", is("z", api.Ne, aReal(math.NaN()))), atom("a", is("z", api.Ne, aWhole(1))),
		atom("a", is("x", api.Gt, aWhole(2)), is("x", api.Lt, aWhole(4)), is("y", api.Gt, aWhole(2)), is("s", api.Eq, aText("b"))),
	} {
		if !Atom(q.n, e) {
			t.Errorf("Atom of %s: false", q.shown())
		}
	}
	for _, q := range []plan{
		atom("b"), atom("aa"), atom("b", is("x", api.Eq, aWhole(3))), atom("a", is("x", api.Eq, aWhole(4))), atom("a", is("x", api.Gt, aWhole(3))), atom("a", is("x", api.Lt, aWhole(3))), atom("a", is("x", api.Ne, aWhole(3))), atom("", is("x", api.Eq, aWhole(4))),
		atom("a", is("w", api.Eq, aWhole(3))), atom("a", is("w", api.Ne, aWhole(3))), atom("", is("w", api.Ne, aText(""))), atom("a", is("s", api.Gt, aWhole(0))), atom("a", is("s", api.Eq, aText("bb"))), atom("a", is("z", api.Eq, aReal(math.NaN()))), atom("a", is("z", api.Le, aWhole(1))),
		atom("a", is("x", api.Eq, aWhole(3)), is("y", api.Eq, aWhole(3))), atom("a", is("y", api.Eq, aWhole(3)), is("x", api.Eq, aWhole(3))), atom("a", is("x", api.Eq, aWhole(3)), is("w", api.Ne, aWhole(3))),
	} {
		if Atom(q.n, e) {
			t.Errorf("Atom of %s: true", q.shown())
		}
	}
	if Atom(atom("a", is("x", api.Ne, aWhole(1))).n, api.Event{Kind: "a"}) || !Atom(atom("a").n, api.Event{Kind: "a"}) {
		t.Errorf("Atom of an event without fields is wrong")
	}
}

func TestAtomOfOtherNodes(t *testing.T) {
	e := api.Event{Kind: "a", Fields: []api.Field{{Name: "x", V: aWhole(3)}}}
	for _, op := range []int{0, api.NodeSeq, api.NodeAlt, api.NodeLoop, api.NodeNot, 6, -1, math.MaxInt, math.MinInt} {
		if Atom(api.Node{Op: op}, e) || Atom(api.Node{Op: op, Kind: "a"}, e) || Atom(api.Node{Op: op, Kids: []int{0}}, e) {
			t.Errorf("Atom of a node of the op %d: true", op)
		}
	}
}

func TestAtomOfWhatMayNotBe(t *testing.T) {
	x := is("x", api.Eq, aWhole(3))
	e := api.Event{Kind: "a", Fields: []api.Field{{Name: "x", V: aWhole(3)}, {Name: "x", V: aWhole(4)}, {Name: "", V: aWhole(5)}, {Name: "w", V: api.Value{}}}}
	for what, n := range map[string]api.Node{
		"the first field of a name": atom("a", x).n, "no name": atom("a", is("", api.Eq, aWhole(5))).n, "many conditions": atom("a", slices.Repeat([]api.Cond{x}, 100)...).n,
		"times and kids": {Op: api.NodeAtom, Lo: 3, Hi: -7, Kids: []int{9}}, "a value with more than its kind": atom("a", is("x", api.Eq, api.Value{Kind: api.Whole, N: 3, S: "s"})).n,
	} {
		if !Atom(n, e) {
			t.Errorf("Atom of %s: false", what)
		}
	}
	for what, n := range map[string]api.Node{
		"the second field of a name": atom("a", is("x", api.Eq, aWhole(4))).n, "no op": atom("a", is("x", 0, aWhole(3))).n, "an op above": atom("a", is("x", 7, aWhole(3))).n, "no kind": atom("a", is("x", api.Ne, api.Value{})).n, "a field of no kind": atom("a", is("w", api.Ne, aWhole(1))).n,
		"the kind any": atom("any").n, "the kind A": atom("A").n,
	} {
		if Atom(n, e) {
			t.Errorf("Atom of %s: true", what)
		}
	}
	for _, kind := range []string{"any", "within", "A", "abcdefghijklmnopq"} {
		if !Atom(atom(kind).n, api.Event{Kind: kind}) {
			t.Errorf("Atom of the kind %s, and an event of it: false", kind)
		}
	}
	if !Atom(atom("").n, api.Event{}) || Atom(atom("a").n, api.Event{}) {
		t.Errorf("Atom of an event of no kind is wrong")
	}
}

// R3: what is handed in is not changed, what is answered shares no memory with it.

func TestArgumentsStay(t *testing.T) {
	r := draws()
	for range 2000 {
		p := anyPlan(r, 4).pattern()
		was := fmt.Sprintf("%#v", p)
		Check(p)
		Show(p)
		Same(p, p)
		for _, n := range p.Nodes {
			Atom(n, api.Event{Kind: "a"})
		}
		if now := fmt.Sprintf("%#v", p); now != was {
			t.Fatalf("%s became %s", was, now)
		}
	}
}

func TestTextsAreNewMemory(t *testing.T) {
	b := []byte("kind")
	s, e := Show(atom(unsafe.String(&b[0], len(b))).pattern())
	b[0] = '!'
	if s != "kind" || e != api.OK {
		t.Errorf("the text became %s, %v", s, e)
	}
}
