package parse

import (
	"math"
	"slices"
	"strings"
	"testing"
	"unsafe"

	"auspice/api"
	"auspice/tree"
)

// Values of the three kinds, nodes of the five, and a pattern of some.
func aWhole(n int) api.Value    { return api.Value{Kind: api.Whole, N: n} }
func aReal(f float64) api.Value { return api.Value{Kind: api.Real, F: f} }
func aText(s string) api.Value  { return api.Value{Kind: api.Text, S: s} }
func someBits(b uint64) api.Value {
	return aReal(math.Float64frombits(b))
}

func atom(kind string, l ...api.Cond) api.Node {
	return api.Node{Op: api.NodeAtom, Kind: kind, Conds: l}
}
func is(name string, op int, v api.Value) api.Cond { return api.Cond{Name: name, Op: op, V: v} }
func seq(kids ...int) api.Node                     { return api.Node{Op: api.NodeSeq, Kids: kids} }
func alt(kids ...int) api.Node                     { return api.Node{Op: api.NodeAlt, Kids: kids} }
func not(kid int) api.Node                         { return api.Node{Op: api.NodeNot, Kids: []int{kid}} }
func loop(lo, hi, kid int) api.Node {
	return api.Node{Op: api.NodeLoop, Lo: lo, Hi: hi, Kids: []int{kid}}
}
func of(l ...api.Node) api.Pattern { return api.Pattern{Nodes: l} }
func until(p api.Pattern, n int) api.Pattern {
	p.Within = n
	return p
}

// written is a value of a condition, as tokens, and what they ought to be read as.
type written struct {
	tokens []string
	want   api.Value
}

const theNaN = 0x7ff8000000000001

// values are some of them.
func values() []written {
	return []written{
		{[]string{"0"}, aWhole(0)}, {[]string{"-0"}, aWhole(0)}, {[]string{"7"}, aWhole(7)}, {[]string{"-1"}, aWhole(-1)},
		{[]string{"999999999999999999"}, aWhole(1e18 - 1)}, {[]string{"-999999999999999999"}, aWhole(1 - 1e18)},
		{[]string{"1", "/", "3"}, aReal(1.0 / 3)}, {[]string{"6", "/", "-3"}, aReal(-2)}, {[]string{"4", "/", "2"}, aReal(2)}, {[]string{"0", "/", "5"}, aReal(0)}, {[]string{"-0", "/", "5"}, aReal(0)},
		{[]string{"0", "/", "-5"}, aReal(math.Copysign(0, -1))}, {[]string{"1", "/", "0"}, aReal(math.Inf(1))}, {[]string{"1", "/", "-0"}, aReal(math.Inf(1))}, {[]string{"-1", "/", "0"}, aReal(math.Inf(-1))}, {[]string{"0", "/", "0"}, someBits(theNaN)},
		{[]string{"999999999999999999", "/", "-7"}, aReal(-1e18 / 7)}, {[]string{"1", "/", "999999999999999999"}, aReal(1e-18)},
		{[]string{"''"}, aText("")}, {[]string{"'b c'"}, aText("b c")}, {[]string{"'nan'"}, aText("nan")}, {[]string{"'*'"}, aText("*")}, {[]string{"'\x00\xff]'"}, aText("\x00\xff]")}, {[]string{"'" + strings.Repeat("s", 64) + "'"}, aText(strings.Repeat("s", 64))},
		{[]string{"#3ff0000000000000"}, aReal(1)}, {[]string{"#0000000000000000"}, aReal(0)}, {[]string{"#8000000000000000"}, aReal(math.Copysign(0, -1))}, {[]string{"#0000000000000001"}, aReal(5e-324)}, {[]string{"#c00abcdef0000000"}, someBits(0xc00abcdef0000000)},
		{[]string{"#7ff0000000000000"}, aReal(math.Inf(1))}, {[]string{"#fff0000000000000"}, aReal(math.Inf(-1))},
		{[]string{"#7ff8000000000001"}, someBits(theNaN)}, {[]string{"#7ff8000000000000"}, someBits(theNaN)}, {[]string{"#fff8000000000001"}, someBits(theNaN)}, {[]string{"#7ff0000000000001"}, someBits(theNaN)}, {[]string{"#ffffffffffffffff"}, someBits(theNaN)},
		{[]string{"nan"}, someBits(theNaN)}, {[]string{"inf"}, aReal(math.Inf(1))}, {[]string{"ninf"}, aReal(math.Inf(-1))},
	}
}

// alike tells whether two patterns are node by node the same, real numbers by their bits.
func alike(a, b api.Pattern) bool {
	cond := func(c, d api.Cond) bool {
		bits := math.Float64bits(c.V.F) == math.Float64bits(d.V.F)
		c.V.F, d.V.F = 0, 0
		return bits && c == d
	}
	node := func(n, m api.Node) bool {
		return n.Op == m.Op && n.Kind == m.Kind && slices.EqualFunc(n.Conds, m.Conds, cond) && n.Lo == m.Lo && n.Hi == m.Hi && slices.Equal(n.Kids, m.Kids)
	}
	return a.Within == b.Within && slices.EqualFunc(a.Nodes, b.Nodes, node)
}

// reads fails, if a text isn't read as that pattern.
func reads(t *testing.T, s string, want api.Pattern) {
	t.Helper()
	if p, at, e := Pattern(s); !alike(p, want) || at != 0 || e != api.OK {
		t.Errorf("Pattern(%q): %+v, %d, %v, want %+v", s, p, at, e, want)
	}
}

// fails fails, if a text is read, or there is another error, or another place.
func fails(t *testing.T, s string, place int, want api.Errno) {
	t.Helper()
	if p, at, e := Pattern(s); !alike(p, api.Pattern{}) || at != place || e != want {
		t.Errorf("Pattern(%q): %+v, %d, %v, want %d, %v", s, p, at, e, place, want)
	}
}

// 11.1

func TestExamples(t *testing.T) {
	reads(t, "a ; !c ; b[x>3] within 9", until(of(atom("a"), atom("c"), not(1), atom("b", is("x", api.Gt, aWhole(3))), seq(0, 2, 3)), 9))
	fails(t, "a;;b", 2, api.ErrSyntax)
	fails(t, "a*", 0, api.ErrTree)
}

func TestAtoms(t *testing.T) {
	x := is("x", api.Eq, aWhole(1))
	for s, n := range map[string]api.Node{
		"a": atom("a"), "abcdefghijklmnop": atom("abcdefghijklmnop"), "a_0": atom("a_0"), "any": atom(""), "anyone": atom("anyone"), "an": atom("an"), "nan": atom("nan"), "inf": atom("inf"), "ninf": atom("ninf"), "withi": atom("withi"),
		"a[x=1]": atom("a", x), "any[x=1]": atom("", x), "a[x!=1]": atom("a", is("x", api.Ne, aWhole(1))), "a[x<1]": atom("a", is("x", api.Lt, aWhole(1))), "a[x<=1]": atom("a", is("x", api.Le, aWhole(1))), "a[x>1]": atom("a", is("x", api.Gt, aWhole(1))), "a[x>=1]": atom("a", is("x", api.Ge, aWhole(1))),
		"a[x=1,x=1]": atom("a", x, x), "a[x=1,y<2,x=1,z='s']": atom("a", x, is("y", api.Lt, aWhole(2)), x, is("z", api.Eq, aText("s"))),
		"a[within=1,any=1,nan=nan,inf=inf]": atom("a", is("within", api.Eq, aWhole(1)), is("any", api.Eq, aWhole(1)), is("nan", api.Eq, someBits(theNaN)), is("inf", api.Eq, aReal(math.Inf(1)))),
	} {
		reads(t, s, of(n))
		reads(t, "("+s+")", of(n))
		reads(t, s+" within 1", until(of(n), 1))
		reads(t, s+"+", of(n, loop(1, -1, 0)))
		reads(t, "z;!"+s+";"+s, of(atom("z"), n, not(1), n, seq(0, 2, 3)))
	}
}

func TestValues(t *testing.T) {
	for _, v := range values() {
		for op, sign := range []string{api.Eq: "=", api.Ne: "!=", api.Lt: "<", api.Le: "<=", api.Gt: ">", api.Ge: ">="} {
			if op == 0 {
				continue
			}
			n := atom("a", is("x", op, v.want))
			reads(t, "a[x"+sign+strings.Join(v.tokens, "")+"]", of(n))
			reads(t, "a [ x "+sign+" "+strings.Join(v.tokens, " ")+" ]", of(n))
		}
	}
}

func TestNodes(t *testing.T) {
	a, b, c, d := atom("a"), atom("b"), atom("c"), atom("d")
	for s, p := range map[string]api.Pattern{
		"a;b": of(a, b, seq(0, 1)), "a;b;c;a": of(a, b, c, a, seq(0, 1, 2, 3)), "a|b": of(a, b, alt(0, 1)), "a|b|c|a": of(a, b, c, a, alt(0, 1, 2, 3)),
		"a;b|c;d": of(a, b, seq(0, 1), c, d, seq(3, 4), alt(2, 5)), "a|b;c|d": of(a, b, c, seq(1, 2), d, alt(0, 3, 4)),
		"(a|b);c": of(a, b, alt(0, 1), c, seq(2, 3)), "a;(b|c)": of(a, b, c, alt(1, 2), seq(0, 3)), "(a;b);c": of(a, b, seq(0, 1), c, seq(2, 3)), "a;(b;c)": of(a, b, c, seq(1, 2), seq(0, 3)), "(a|b)|c": of(a, b, alt(0, 1), c, alt(2, 3)), "a|(b|c)": of(a, b, c, alt(1, 2), alt(0, 3)),
		"a+": of(a, loop(1, -1, 0)), "a*;b": of(a, loop(0, -1, 0), b, seq(1, 2)), "a?;b": of(a, loop(0, 1, 0), b, seq(1, 2)), "a{0,};b": of(a, loop(0, -1, 0), b, seq(1, 2)), "b;a{0,3}": of(b, a, loop(0, 3, 1), seq(0, 2)),
		"a{2,}": of(a, loop(2, -1, 0)), "a{8,8}": of(a, loop(8, 8, 0)), "a{1,8}": of(a, loop(1, 8, 0)), "a{1,1}": of(a, loop(1, 1, 0)), "a{2,-1}": of(a, loop(2, -1, 0)), "a{-0,1};b": of(a, loop(0, 1, 0), b, seq(1, 2)),
		"(a;b)+": of(a, b, seq(0, 1), loop(1, -1, 2)), "(a|b){2,3}": of(a, b, alt(0, 1), loop(2, 3, 2)), "(a+)+": of(a, loop(1, -1, 0), loop(1, -1, 1)), "a+;b+": of(a, loop(1, -1, 0), b, loop(1, -1, 2), seq(1, 3)), "a+|b": of(a, loop(1, -1, 0), b, alt(1, 2)),
		"a;!b;c": of(a, b, not(1), c, seq(0, 2, 3)), "a;!b;!b;c": of(a, b, not(1), b, not(3), c, seq(0, 2, 4, 5)), "a;(!b);c": of(a, b, not(1), c, seq(0, 2, 3)), "a;((!b));((c))": of(a, b, not(1), c, seq(0, 2, 3)), "(a;!b;c)+": of(a, b, not(1), c, seq(0, 2, 3), loop(1, -1, 4)),
		"((((a))))": of(a), "((a);(b))": of(a, b, seq(0, 1)), "((a;b))": of(a, b, seq(0, 1)), "((a)|b|(c;d))": of(a, b, c, d, seq(2, 3), alt(0, 1, 4)),
	} {
		reads(t, s, p)
		reads(t, s+" within 0", p)
		reads(t, s+" within -0", p)
		reads(t, s+" within 549755813888", until(p, api.MaxIndex))
		reads(t, "("+s+")within 12", until(p, 12))
	}
}

func TestTextsOfNoTokens(t *testing.T) {
	for s, place := range map[string]int{"A": 0, "a ; 01": 4, "a;;b $": 5, "a*$": 2, ") 'a": 2, "a[x=#12]": 4, "a ; -": 4, "a[x=1000000000000000000]": 4, "a within\n9.5": 10} {
		fails(t, s, place, api.ErrLex)
	}
	for _, s := range []string{"a", " ", "$", "(", ";"} {
		fails(t, strings.Repeat(s, api.MaxSource+1), 0, api.ErrLong)
	}
}

func TestTextsThatDoNotGoOn(t *testing.T) {
	for s, place := range map[string]int{
		"": 0, " ": 1, "\n\n": 2, ";": 0, "|": 0, ")": 0, "]": 0, "}": 0, "{": 0, ",": 0, "*": 0, "+": 0, "?": 0, "=": 0, "/": 0, "1": 0, "'a'": 0, "#0000000000000000": 0, "[x=1]": 0,
		"a;": 2, "a ; ": 4, "a|": 2, "a||b": 2, "a;|b": 2, "a|;b": 2, ";a": 0, "a b": 2, "a 1": 2, "a 'b'": 2, "a,b": 1, "a=1": 1, "a)": 1, "a]": 1, "a}": 1, "a(b)": 1, "a!b": 1, "a/b": 1, "a #0000000000000000": 2,
		"(": 1, "()": 1, "(a": 2, "(a;": 3, "(a;)": 3, "(a|)": 3, "(a))": 3, "((a)": 4, "(a b)": 3, "(a within 9)": 3, "(a]": 2, "(a)(b)": 3, "(a)b": 3, "(a)[x=1]": 3,
		"!": 1, "!!a": 1, "!(a)": 1, "a;!(b);c": 3, "!a*": 2, "a;!b+;c": 4, "a;!b{1,2};c": 4, "a;!;b": 3, "a;!'b'": 3, "!1": 1,
		"a**": 2, "a+*": 2, "a?{1,2}": 2, "a{1,2}{1,2}": 6, "a{1,2}+": 6, "a{": 2, "a{}": 2, "a{1": 3, "a{1}": 3, "a{,}": 2, "a{,2}": 2, "a{1,2": 5, "a{1,2,3}": 5, "a{1 2}": 4, "a{1,a}": 4, "a{a,1}": 2, "a{1,2)": 5, "a{1;2}": 3, "a{1/2,3}": 3, "a{'1',2}": 2,
		"a[": 2, "a[]": 2, "a[x": 3, "a[x]": 3, "a[x=": 4, "a[x=]": 4, "a[x=1": 5, "a[x=1,": 6, "a[x=1,]": 6, "a[,x=1]": 2, "a[x=1;y=2]": 5, "a[x=1][y=2]": 6, "a[1=x]": 2, "a['x'=1]": 2, "a[x 1]": 4, "a[x=1 y=2]": 6, "a[x==1]": 4, "a[x!1]": 3, "a[x=!1]": 4, "a[x=>1]": 4, "a[(x=1)]": 2, "a[x=1)": 5,
		"a[x=y]": 4, "a[x=any]": 4, "a[x=within]": 4, "a[x=nans]": 4, "a[x=/2]": 4, "a[x=1/]": 6, "a[x=1/2/3]": 7, "a[x=1/'2']": 6, "a[x=1/nan]": 6, "a[x='a'/2]": 7, "a[x=inf/2]": 7, "a[x=#3ff0000000000000/2]": 21, "a[x='a''b']": 7, "a[x=1 2]": 6, "a[x=nan nan]": 8,
		"a within": 8, "a within ": 9, "a within a": 9, "a within '9'": 9, "a within 9 9": 11, "a within 9;b": 10, "a within 9 within 9": 11, "a within 9/2": 10, "a within 9)": 10, "a within (9)": 9, "a within #0000000000000000": 9, "a within;b": 8, "a within within 9": 9, "a;within 9": 9, "within 9": 7, "within within within 9": 14, "!within 9": 8,
		"a*;b c*": 5, "a*;any[x=1] within 99999999999999999 9": 37,
	} {
		fails(t, s, place, api.ErrSyntax)
		fails(t, "\t "+s, place+2, api.ErrSyntax)
	}
	// The place is told, whatever else would be no pattern that may be.
	fails(t, "within;a*;b{9,8};any[abcdefghijklmnopqrstuvwxyz=1] within -9 9", 61, api.ErrSyntax)
	fails(t, strings.Repeat("a;", 200), 400, api.ErrSyntax)
	fails(t, strings.Repeat("(", api.MaxSource), api.MaxSource, api.ErrSyntax)
	fails(t, strings.Repeat("!", api.MaxSource), 1, api.ErrSyntax)
	fails(t, strings.Repeat("(", 2048)+strings.Repeat(")", 2048), 2048, api.ErrSyntax)
	fails(t, strings.Repeat("(", 2047)+"a"+strings.Repeat(")", 2048), 4095, api.ErrSyntax)
}

func TestPatternsThatMayNotBe(t *testing.T) {
	for _, s := range []string{
		"a*", "a?", "a{0,3}", "a*;b*", "a|b*", "(a*)+", "(a?;b?)+;c", "within", "a;within", "!a", "!within", "(!a)", "!a;b", "a;!b", "a|!b", "!a|b", "(!a)*", "(!a)+;b", "a;(!b)+;c", "a;!within;b", "within within 9", "within[x=1]",
		"abcdefghijklmnopq", "a[abcdefghijklmnopq=1]", "a[x=1,x=1,x=1,x=1,x=1]", "a{9,}", "a{1,9}", "a{2,1}", "a{0,0}", "a{1,0}", "a{-1,}", "a{-1,2}", "a{1,-2}", "a{-1,-1}", "a{1,100000000000000000}", "a{999999999999999999,999999999999999999}",
		"a within -1", "a within 549755813889", "a within 999999999999999999", "a within -999999999999999999", strings.Repeat("(", 12) + "a" + strings.Repeat(")+", 12),
	} {
		fails(t, s, 0, api.ErrTree)
		fails(t, " "+s, 0, api.ErrTree)
	}
	for _, n := range []int{64, 65, 100, 2000} {
		fails(t, "a"+strings.Repeat(";a", n-1), 0, api.ErrLong)
	}
	fails(t, strings.Repeat("(", 1000)+"a"+strings.Repeat(")+", 1000), 0, api.ErrLong)
	fails(t, "a*"+strings.Repeat(";a*", 100), 0, api.ErrLong)
	if p, at, e := Pattern("a" + strings.Repeat(";a", 62)); len(p.Nodes) != 64 || at != 0 || e != api.OK {
		t.Errorf("Pattern of 64 nodes: %d, %d, %v", len(p.Nodes), at, e)
	}
	reads(t, strings.Repeat("(", 2047)+"a"+strings.Repeat(")", 2047), of(atom("a")))
	deep := of(atom("a"))
	for i := range 11 {
		deep.Nodes = append(deep.Nodes, loop(1, -1, i))
	}
	reads(t, strings.Repeat("(", 11)+"a"+strings.Repeat(")+", 11), deep)
}

func TestAnyTextsOfTheGrammar(t *testing.T) {
	r := draws()
	m := rules()
	right := 0
	for range 20000 {
		s := sprouted(r, r.Intn(5))
		text := s.text(r.Intn(2) == 0)
		if len(text) > api.MaxSource {
			continue
		}
		if at, e := told(m, text); at != 0 || e != api.OK {
			t.Fatalf("%q is no text of the grammar: %d, %v", text, at, e)
		}
		if e := tree.Check(s.Pattern); e != api.OK {
			fails(t, text, 0, e)
			continue
		}
		right++
		reads(t, text, s.Pattern)
	}
	if right < 8000 {
		t.Errorf("only %d patterns might be", right)
	}
}

// tokens are those that texts may be made of.
func tokens() []string {
	return strings.Fields("a any within nan inf ninf 1 -1 's' #3ff0000000000000 ( ) [ ] { } , ; | * + ? ! = != < <= > >= /")
}

// tells fails, if of a text another place or another error is told than the grammar asks for.
func tells(t *testing.T, m map[string][][]string, s string) bool {
	t.Helper()
	place, want := told(m, s)
	p, at, e := Pattern(s)
	if want == api.OK {
		if e != api.OK && e != api.ErrTree && e != api.ErrLong || at != 0 || e != api.OK && !alike(p, api.Pattern{}) {
			t.Errorf("Pattern(%q): %+v, %d, %v of a text of the grammar", s, p, at, e)
		}
		return true
	}
	if at != place || e != want || !alike(p, api.Pattern{}) {
		t.Errorf("Pattern(%q): %+v, %d, %v, want %d, %v", s, p, at, e, place, want)
	}
	return false
}

func TestAllShortTexts(t *testing.T) {
	m, l := rules(), tokens()
	right := 0
	for _, a := range l {
		for _, b := range l {
			for _, c := range l {
				if tells(t, m, a+" "+b+" "+c) {
					right++
				}
				tells(t, m, "a["+a+" "+b+" "+c)
				tells(t, m, "(a{1"+a+" "+b+" "+c)
			}
		}
	}
	if right < 50 {
		t.Errorf("only %d texts were of the grammar", right)
	}
}

func TestChangedTexts(t *testing.T) {
	r := draws()
	m, l := rules(), tokens()
	right, wrong := 0, 0
	for range 20000 {
		s := sprouted(r, r.Intn(3))
		for range 1 + r.Intn(2) {
			i, one := r.Intn(len(s.tokens)), l[r.Intn(len(l))]
			switch r.Intn(4) {
			case 0:
				s.tokens[i] = one
			case 1:
				s.tokens = slices.Insert(s.tokens, i, one)
			case 2:
				s.tokens = append(slices.Delete(s.tokens, i, i+1), one)
			case 3:
				s.tokens = append(s.tokens[:i], one)
			}
		}
		if len(s.tokens) > 100 {
			continue
		}
		if tells(t, m, strings.Join(s.tokens, " ")) {
			right++
		} else {
			wrong++
		}
	}
	if right < 500 || wrong < 1000 {
		t.Errorf("only %d texts were of the grammar, %d were not", right, wrong)
	}
}

// 11.2

func TestWhatIsShownIsReadAsItWas(t *testing.T) {
	r := draws()
	shown := 0
	for range 20000 {
		s := sprouted(r, r.Intn(6))
		text, e := tree.Show(s.Pattern)
		if e != api.OK {
			continue
		}
		shown++
		reads(t, text, s.Pattern)
		p, _, e := Pattern(s.text(true))
		if !tree.Same(p, s.Pattern) || e != api.OK {
			t.Errorf("Pattern(%q): %+v, %v, is shown as %s", s.text(true), p, e, text)
		}
		if again, e := tree.Show(p); again != text || e != api.OK {
			t.Errorf("Show of what is read of %q: %s, %v, want %s", s.text(true), again, e, text)
		}
	}
	if shown < 8000 {
		t.Errorf("only %d patterns were shown", shown)
	}
	// Bits are longer than what they may be written as.
	one := "a[x=nan,x=nan,x=nan,x=nan]"
	p, _, e := Pattern(one + strings.Repeat(";"+one, 59))
	if s, f := tree.Show(p); e != api.OK || s != "" || f != api.ErrLong {
		t.Errorf("a pattern whose text is too long: %v, %q, %v", e, s, f)
	}
}

func TestPatternsWhoseNodesStandOtherwise(t *testing.T) {
	a, b := atom("a"), atom("b")
	for _, p := range []api.Pattern{of(b, a, seq(1, 0)), of(a, b, atom("c"), not(2), seq(0, 3, 1)), of(atom("c"), b, loop(1, -1, 1), a, alt(3, 2, 0))} {
		s, e := tree.Show(p)
		q, at, f := Pattern(s)
		if alike(p, q) || !tree.Same(p, q) || e != api.OK || at != 0 || f != api.OK {
			t.Errorf("%s is read as %+v, %d, %v", s, q, at, f)
		}
	}
}

func TestBlanksCountForNothing(t *testing.T) {
	r := draws()
	for range 5000 {
		s := sprouted(r, r.Intn(5))
		p, at, e := Pattern(s.text(true))
		if q, o, f := Pattern(s.text(false)); !alike(p, q) || at != o || e != f {
			t.Errorf("Pattern of %q and %q: %+v, %d, %v, and %+v, %d, %v", s.text(true), s.text(false), p, at, e, q, o, f)
		}
	}
}

func TestBracketsAboutAWholeSayNothing(t *testing.T) {
	r := draws()
	for range 5000 {
		s := sprouted(r, r.Intn(5))
		text := s.text(r.Intn(2) == 0)
		if s.late {
			fails(t, "("+text+")", 1+strings.LastIndex(text, "within"), api.ErrSyntax)
			continue
		}
		p, at, e := Pattern(text)
		for n := 1; n < 5; n++ {
			bracketed := strings.Repeat("(", n) + text + strings.Repeat(" )", n)
			if q, o, f := Pattern(bracketed); !alike(p, q) || at != o || e != f {
				t.Errorf("Pattern of %q: %+v, %d, %v, want %+v, %d, %v", bracketed, q, o, f, p, at, e)
			}
		}
	}
}

// R1: any bytes.

func TestAnyBytes(t *testing.T) {
	r := draws()
	m := rules()
	const some = "ab09_ '#()[]{},;|*+?!=<>/-\n\xff$"
	for range 20000 {
		b := make([]byte, r.Intn(20))
		for i := range b {
			b[i] = some[r.Intn(len(some))]
		}
		tells(t, m, string(b))
		r.Read(b)
		tells(t, m, string(b))
	}
}

// R3: what is answered shares no memory with what was handed in, nor with another answer.

func TestAnswersAreNewMemory(t *testing.T) {
	b := []byte("kind[name='text'] ; !kind[name='text', name='text'] ; (b | c)+ within 9")
	s := unsafe.String(&b[0], len(b))
	x := is("name", api.Eq, aText("text"))
	want := until(of(atom("kind", x), atom("kind", x, x), not(1), atom("b"), atom("c"), alt(3, 4), loop(1, -1, 5), seq(0, 2, 6)), 9)
	one, _, _ := Pattern(s)
	two, _, _ := Pattern(s)
	for i := range b {
		b[i] = '?'
	}
	for i, n := range two.Nodes {
		clear(n.Conds[:cap(n.Conds)])
		clear(n.Kids[:cap(n.Kids)])
		two.Nodes[i] = api.Node{}
	}
	if !alike(one, want) {
		t.Errorf("the pattern became %+v", one)
	}
}

func TestListsOfOneAnswerShareNothing(t *testing.T) {
	const s = "a[x=1,x=2,x=3] ; !b[x=1] ; (b | c | d)+ ; b[y=1] within 9"
	want, _, _ := Pattern(s)
	for i := range want.Nodes {
		p, _, _ := Pattern(s)
		clear(p.Nodes[i].Conds[:cap(p.Nodes[i].Conds)])
		clear(p.Nodes[i].Kids[:cap(p.Nodes[i].Kids)])
		p.Nodes[i] = want.Nodes[i]
		if !alike(p, want) {
			t.Errorf("as the lists of the node %d were cleared, all became %+v", i, p)
		}
	}
}
