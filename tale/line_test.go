package tale_test

import (
	"math"
	"math/rand"
	"regexp"
	"slices"
	"strconv"
	"strings"
	"testing"
	"unsafe"

	"auspice/api"
	"auspice/event"
	"auspice/sm"
	"auspice/tale"
)

// pair is an act and its line.
type pair struct {
	line string
	act  api.Act
}

// pairs are acts of all kinds, and their lines.
func pairs() []pair {
	nan := math.Float64frombits(0xfff8000000abcdef)
	return []pair{
		{"tick 1 2 3", api.Act{Kind: api.ActTick, N: 1, Draw: 2, Delay: 3}},
		{"tick 0 0 0", api.Act{}},
		{"stop 1 2", api.Act{Kind: api.ActStop, Node: 1, N: 2}},
		{"start 1 2", api.Act{Kind: api.ActStart, Node: 1, Draw: 2}},
		{"trip 1 2 3", api.Act{Kind: api.ActTrip, Node: 1, N: 2, Keep: 3}},
		{"room 1 -2", api.Act{Kind: api.ActRoom, Node: 1, N: -2}},
		{"cut 1 2", api.Act{Kind: api.ActCut, Node: 1, Other: 2, N: 1}},
		{"join 1 2", api.Act{Kind: api.ActCut, Node: 1, Other: 2}},
		{"lose 9", api.Act{Kind: api.ActLose, N: 9}},
		{"twice 9 2", api.Act{Kind: api.ActTwice, N: 9, Delay: 2}},
		{"mask 1 7 3", api.Act{Kind: api.ActMask, Node: 1, N: 7, Delay: 3}},
		{"add 1 2 p a ; b", lays(1, 2, add("p", "a ; b"))},
		{"add 0 0 p ", lays(0, 0, add("p", ""))},
		{"add 0 0 p  ", lays(0, 0, add("p", " "))},
		{"add 0 0 p  a  \t\r\x00\xff# add 0 0 p ", lays(0, 0, add("p", " a  \t\r\x00\xff# add 0 0 p "))},
		{"add -1 -2 abcdefghijklmno_ " + strings.Repeat("x y ", 1024), lays(-1, -2, add("abcdefghijklmno_", strings.Repeat("x y ", 1024)))},
		{"lay 1 2 -", lays(1, 2, "")},
		{"lay 0 0 00", lays(0, 0, "\x00")},
		{"lay 0 0 01", lays(0, 0, "\x01")},
		{"lay 0 0 0123456789abcdefff0a20", lays(0, 0, "\x01\x23\x45\x67\x89\xab\xcd\xef\xff\x0a\x20")},
		{"lay 0 0 04017003610a62", lays(0, 0, add("p", "a\nb"))},
		{"lay 0 0 0401700161ff", lays(0, 0, add("p", "a")+"\xff")},
		{"lay 0 0 " + strings.Repeat("ab", 1<<15), lays(0, 0, strings.Repeat("\xab", 1<<15))},
		{"tell 0 a 5", tells(0, of(5, "a"))},
		{"tell 3 a_1 549755813888 x=3", tells(3, of(api.MaxIndex, "a_1", whole("x", 3)))},
		{"tell 0 a 0 a=-7 b=#3ff0000000000000 c=0", tells(0, of(0, "a", whole("a", -7), number("b", 1), whole("c", 0)))},
		{"tell 0 a 0 a=#8000000000000000 b=#0000000000000000 c=#fff8000000abcdef d=#7ff0000000000001", tells(0, of(0, "a", number("a", math.Copysign(0, -1)), number("b", 0), number("c", nan), number("d", math.Float64frombits(0x7ff0000000000001))))},
		{"tell 0 a 0 a=999999999999999999 b=-999999999999999999", tells(0, of(0, "a", whole("a", most), whole("b", -most)))},
		{"tell 0 a 0 a=0 b=1 c=2 d=3 e=4 f=5 g=6 h=7", tells(0, of(0, "a", whole("a", 0), whole("b", 1), whole("c", 2), whole("d", 3), whole("e", 4), whole("f", 5), whole("g", 6), whole("h", 7)))},
		{"ask 3 4", api.Act{Kind: api.ActAsk, Who: 3, Delay: 4}},
		{"follow 3 p 5", api.Act{Kind: api.ActFollow, Who: 3, Name: "p", N: 5}},
		{"follow 0 abcdefghijklmnop -5", api.Act{Kind: api.ActFollow, Name: "abcdefghijklmnop", N: -5}},
		{"read 3", api.Act{Kind: api.ActRead, Who: 3}},
		{"tick 999999999999999999 -999999999999999999 -1", api.Act{N: most, Draw: -most, Delay: -1}},
		{"read -999999999999999999", api.Act{Kind: api.ActRead, Who: -most}},
	}
}

// 24.1

func TestLines(t *testing.T) {
	for _, p := range pairs() {
		shows(t, p.act, p.line)
		says(t, p.line, p.act)
	}
	shows(t, tells(0, api.Event{Kind: "a", Fields: []api.Field{}}), "tell 0 a 0")
}

// places are all numbers and texts of an act.
func places(a *api.Act) ([]*int, []*string) {
	return []*int{&a.Node, &a.Other, &a.Who, &a.N, &a.Keep, &a.Draw, &a.Delay, &a.E.Session, &a.E.Seq, &a.E.Stamp}, []*string{&a.Name, &a.Text, &a.E.Kind}
}

func TestWhatALineDoesNotSayIsZero(t *testing.T) {
	// The numbers that a kind names, by their places above.
	named := map[int][]int{
		api.ActTick: {3, 5, 6}, api.ActStop: {0, 3}, api.ActStart: {0, 5}, api.ActTrip: {0, 3, 4}, api.ActRoom: {0, 3}, api.ActCut: {0, 1},
		api.ActLose: {3}, api.ActTwice: {3, 6}, api.ActMask: {0, 3, 6}, api.ActLay: {0, 6}, api.ActTell: {2, 9}, api.ActAsk: {2, 6},
		api.ActFollow: {2, 3}, api.ActRead: {2},
	}
	texts := map[int][]int{api.ActLay: {1}, api.ActTell: {2}, api.ActFollow: {0}}
	for _, p := range pairs() {
		a := p.act
		numbers, strs := places(&a)
		for i, at := range numbers {
			old := *at
			for _, n := range []int{1, -1, 7, most} {
				if *at = old + n; n == most {
					*at = most + 1
				}
				if slices.Contains(named[a.Kind], i) && n != most && !(i == 9 && (*at < 0 || *at > api.MaxIndex)) && max(*at, -*at) <= most {
					if s, e := tale.Show(a); e != api.OK || s == p.line {
						t.Errorf("Show(%s): %.100q, %d", short(a), s, e)
					}
				} else if a.Kind != api.ActCut || i != 3 || *at > 1 || *at < 0 {
					silent(t, a)
				}
			}
			*at = old
		}
		for i, at := range strs {
			if !slices.Contains(texts[a.Kind], i) {
				*at = "b"
				silent(t, a)
				*at = ""
			}
		}
		if a.Kind != api.ActTell {
			a.E.Fields = []api.Field{whole("x", 0)}
			silent(t, a)
			a.E.Fields = []api.Field{{}}
			silent(t, a)
			a.E.Fields = nil
		}
		shows(t, a, p.line)
	}
	for _, kind := range append(far(), 14, 15) {
		silent(t, api.Act{Kind: kind})
	}
	for _, n := range append(far(), 2) {
		silent(t, api.Act{Kind: api.ActCut, N: n})
	}
}

func TestNumbersHaveEighteenDigits(t *testing.T) {
	for _, p := range pairs() {
		a := p.act
		numbers, _ := places(&a)
		for _, at := range numbers {
			old := *at
			for _, n := range []int{most + 1, -most - 1, math.MaxInt, math.MinInt} {
				*at = n
				silent(t, a)
			}
			*at = old
		}
	}
	for _, n := range []int{most + 1, -most - 1, math.MaxInt, math.MinInt} {
		silent(t, tells(0, of(0, "a", whole("x", n))))
	}
}

// badEvents are events that no line says.
func badEvents() []api.Event {
	minus := math.Copysign(0, -1)
	return []api.Event{
		{}, of(0, ""), of(0, "A"), of(0, "a b"), of(0, "a\n"), of(0, "abcdefghijklmnopq"), of(-1, "a"), of(api.MaxIndex+1, "a"),
		of(0, "a 5"), of(0, "a 5 x=3"), {Kind: "a", Session: 1}, {Kind: "a", Seq: 1}, {Kind: "a", Session: -1},
		of(0, "a", whole("", 1)), of(0, "a", whole("X", 1)), of(0, "a", whole("x=1 y", 1)), of(0, "a", whole("x=", 1)),
		of(0, "a", whole("x", 1), whole("x", 1)), of(0, "a", whole("y", 1), whole("x", 1)),
		of(0, "a", api.Field{Name: "x", V: api.Value{Kind: api.Text, S: "1"}}), of(0, "a", api.Field{Name: "x", V: api.Value{Kind: api.Text}}),
		of(0, "a", api.Field{Name: "x"}), of(0, "a", api.Field{Name: "x", V: api.Value{Kind: 4, N: 1}}), of(0, "a", api.Field{Name: "x", V: api.Value{Kind: -1}}),
		of(0, "a", api.Field{Name: "x", V: api.Value{Kind: api.Whole, N: 1, F: 1}}), of(0, "a", api.Field{Name: "x", V: api.Value{Kind: api.Whole, N: 1, F: minus}}),
		of(0, "a", api.Field{Name: "x", V: api.Value{Kind: api.Whole, N: 1, S: "1"}}), of(0, "a", api.Field{Name: "x", V: api.Value{Kind: api.Real, N: 1}}),
		of(0, "a", api.Field{Name: "x", V: api.Value{Kind: api.Real, S: "1"}}),
		of(0, "a", whole("a", 1), whole("b", 1), whole("c", 1), whole("d", 1), whole("e", 1), whole("f", 1), whole("g", 1), whole("h", 1), whole("i", 1)),
	}
}

func TestWhatNoLineSays(t *testing.T) {
	for _, e := range badEvents() {
		silent(t, tells(0, e))
	}
	for _, name := range []string{"", "P", "p ", " p", "p 5", "p\n", "0", "abcdefghijklmnopq", strings.Repeat("p", 1<<20)} {
		silent(t, api.Act{Kind: api.ActFollow, Name: name, N: 1})
	}
	for _, n := range []int{1<<15 + 1, 1 << 16, 1 << 24} {
		silent(t, lays(0, 0, strings.Repeat("x", n)))
	}
}

// wrong are lines of no act.
func wrong() []string {
	return []string{
		"", " ", "#", "# tick 1 0 0", "x", "tick", "tick 1 2", "tick 1 2 3 4", "tick 1 2 ", "tick 1 2 3 ", " tick 1 2 3", "tick  1 2 3", "tick 1  2 3", "tick 1 2  3",
		"Tick 1 2 3", "tick\t1 2 3", "tick 1 2 3\n", "tick 1 2 3\r", "tick,1 2 3", "ticks 1 2 3", "tick 1 2 x", "tick 1 2 3x", "tick 01 2 3", "tick -0 2 3", "tick +1 2 3",
		"tick 1 2 00", "tick - 2 3", "tick -01 2 3", "tick --1 2 3", "tick 1.0 2 3", "tick 1_0 2 3", "tick 0x1 2 3", "tick 1e3 2 3", "tick ١ 2 3", "tick 1000000000000000000 2 3",
		"tick -1000000000000000000 2 3", "tick 9223372036854775808 2 3", "tick 000000000000000001 2 3", "tick 99999999999999999999 2 3", "tick 18446744073709551617 0 0",
		"stop", "stop 1", "stop 1 2 3", "start 1", "start 1 2 3", "trip 1 2", "trip 1 2 3 4", "room 1", "room 1 2 3", "cut 1", "cut 1 2 3", "cut 1 2 1", "join 1", "join 1 2 0",
		"lose", "lose 1 2", "twice 1", "twice 1 2 3", "mask 1 2", "mask 1 2 3 4", "ask 1", "ask 1 2 3", "read", "read 1 2", "read p",
		"follow", "follow 1", "follow 1 p", "follow 1 p 2 3", "follow 1 P 2", "follow 1  2", "follow 1 2 p", "follow p 1", "follow 1 abcdefghijklmnopq 2", "follow 1 p x", "follow 1 p 2 ",
		"add", "add 1", "add 1 2", "add 1 2 p", "add 1 2 ", "add 1 2  a", "add 1 2 P a", "add 1 2 abcdefghijklmnopq a", "add x 2 p a", "add 1 y p a", "add 1 2 p a\nb", "add 1 2 p \n",
		"add 1 2 p a\n", "add 1 2 p\ta", "add 1 2 p " + strings.Repeat("x", 4097), "add 01 2 p a",
		"lay", "lay 1", "lay 1 2", "lay 1 2 ", "lay 1 2 0", "lay 1 2 000", "lay 1 2 0g", "lay 1 2 AB", "lay 1 2 aB", "lay 1 2 -00", "lay 1 2 00-", "lay 1 2 --", "lay 1 2 00 00", "lay 1 2 00 ", "lay 1 2 - -",
		"lay 1 2 0x", "lay 1 2 " + strings.Repeat("ab", 1<<15+1), "lay 1 2 040170016" + "1", "lay 1 2 04017000", "lay 1 2 :0", "lay 1 2 0/", "lay 1 2 `0",
		"tell", "tell 1", "tell 1 a", "tell 1 a ", "tell 1 a 5 ", "tell 1 a x", "tell 1 a -1", "tell 1 a 549755813889", "tell 1 A 5", "tell 1  5", "tell 1 abcdefghijklmnopq 5", "tell 1 5 a",
		"tell 1 a 5 x", "tell 1 a 5 x=", "tell 1 a 5 =3", "tell 1 a 5 x==3", "tell 1 a 5 x=3=4", "tell 1 a 5 X=3", "tell 1 a 5 x=03", "tell 1 a 5 x=+3", "tell 1 a 5 x=-0", "tell 1 a 5 x=1000000000000000000",
		"tell 1 a 5 x=3 x=4", "tell 1 a 5 y=3 x=4", "tell 1 a 5 x=3  y=4", "tell 1 a 5 x=3 y=4 ", "tell 1 a 5 x = 3", "tell 1 a 5 x= 3", "tell 1 a 5 x=3.0", "tell 1 a 5 x=\"a\"",
		"tell 1 a 5 x=#", "tell 1 a 5 x=#3ff000000000000", "tell 1 a 5 x=#3ff00000000000000", "tell 1 a 5 x=#3FF0000000000000", "tell 1 a 5 x=#3ff000000000000g", "tell 1 a 5 x=##3ff000000000000",
		"tell 1 a 5 x=3ff0000000000000", "tell 1 a 5 x=#+ff0000000000000", "tell 1 a 5 x=#3ff0_00000000000", "tell 1 a 5 x=#-3ff000000000000", "tell 1 a 5 x=#0003ff0000000000000",
		"tell 1 a 5 a=0 b=1 c=2 d=3 e=4 f=5 g=6 h=7 i=8", "tell 1 a 5 a=0 b=1 c=2 d=3 e=4 f=5 g=6 h=7 ", "tell 1 a 5 #3ff0000000000000",
		strings.Repeat(" ", 1<<16), strings.Repeat("x ", 1<<16), "tick " + strings.Repeat("1", 1<<16) + " 0 0", "tell 0 a 0 " + strings.Repeat("x=1 ", 1<<16),
	}
}

func TestLinesOfNoAct(t *testing.T) {
	for _, s := range wrong() {
		none(t, s)
	}
}

// oneOf are lines of one form.
type form struct {
	re   *regexp.Regexp
	more func(l []string) bool
}

// forms are the forms of all lines, by regular expressions and what these can't say.
func forms() (l []form) {
	num, word, always := `(0|-?[1-9][0-9]{0,17})`, `([a-z][a-z0-9_]{0,15})`, func([]string) bool { return true }
	of := func(s string, more func(l []string) bool) {
		s = strings.NewReplacer("N", num, "W", word).Replace(s)
		l = append(l, form{regexp.MustCompile(`(?s)\A` + s + `\z`), more})
	}
	for _, s := range []string{"tick N N N", "(stop|start|room|cut|join|twice|ask) N N", "(trip|mask) N N N", "(lose|read) N", "follow N W N"} {
		of(s, always)
	}
	of(`add N N W ([^\n]*)`, func(l []string) bool { return len(l[4]) <= 4096 })
	of(`lay N N (-|(?:[0-9a-f]{2})+)`, func(l []string) bool {
		var b []byte
		for i := 0; i+1 < len(l[3]); i += 2 {
			n, _ := strconv.ParseUint(l[3][i:i+2], 16, 8)
			b = append(b, byte(n))
		}
		c, _ := sm.Read(string(b))
		return len(b) <= 1<<15 && (c.Kind != api.CmdAdd || strings.Contains(c.Text, "\n"))
	})
	field := `(?: W=(?:N|#[0-9a-f]{16}))`
	of(`tell N W N(`+field+`{0,8})`, func(l []string) bool {
		var names []string
		for _, s := range strings.Fields(l[4]) {
			names = append(names, strings.Split(s, "=")[0])
		}
		stamp, _ := strconv.Atoi(l[3])
		return stamp >= 0 && stamp <= 1<<39 && slices.IsSorted(names) && len(slices.Compact(names)) == strings.Count(l[4], "=")
	})
	return l
}

// isLine tells whether a line is one of an act.
func isLine(l []form, s string) bool {
	for _, f := range l {
		if m := f.re.FindStringSubmatch(s); m != nil && f.more(m) {
			return true
		}
	}
	return false
}

// changed is a line with some of it changed.
func changed(r *rand.Rand, s string) string {
	l := strings.Split(s, " ")
	i := r.Intn(len(l))
	words := []string{"", "0", "-1", "1", "-", "00", "x", "x=1", "a=#0000000000000000", "p", "add", "lay", "tell", "ask", "tick", "cut", "join", "99999999999999999", "\n", "A", "=", "#", "04017000"}
	w := words[r.Intn(len(words))]
	switch r.Intn(6) {
	case 0:
		l[i] = w
	case 1:
		l = slices.Insert(l, i, w)
	case 2:
		l = slices.Delete(l, i, i+1)
	case 3:
		l[i] += w
	default:
		b := []byte(s)
		if len(b) > 0 {
			const any = "0123456789-abcdefxyzA= #\n_"
			b[r.Intn(len(b))] = any[r.Intn(len(any))]
		}
		return string(b)
	}
	return strings.Join(l, " ")
}

// 24.1 and 24.3

func TestAnyLines(t *testing.T) {
	r, l, known, yes := draws(), forms(), pairs(), 0
	for _, s := range wrong() {
		if isLine(l, s) {
			t.Errorf("%.100q is held to be a line", s)
		}
	}
	for i := range 60000 {
		s := known[r.Intn(len(known))].line
		if len(s) > 300 {
			continue
		}
		for range r.Intn(4) {
			s = changed(r, s)
		}
		if !isLine(l, s) {
			none(t, s)
			continue
		}
		yes++
		a, e := tale.Read(s)
		if e != api.OK {
			t.Fatalf("%d: Read(%q): %d", i, s, e)
		}
		shows(t, a, s)
	}
	if yes < 15000 || yes > 45000 {
		t.Errorf("%d of 60000 are lines", yes)
	}
}

// named is an act of which all is zero that its kind does not name.
func named(a api.Act) (b api.Act) {
	b.Kind = a.Kind
	switch a.Kind {
	case api.ActTick:
		b.N, b.Draw, b.Delay = a.N, a.Draw, a.Delay
	case api.ActStop, api.ActRoom:
		b.Node, b.N = a.Node, a.N
	case api.ActStart:
		b.Node, b.Draw = a.Node, a.Draw
	case api.ActTrip:
		b.Node, b.N, b.Keep = a.Node, a.N, a.Keep
	case api.ActCut:
		b.Node, b.Other, b.N = a.Node, a.Other, a.N
	case api.ActLose:
		b.N = a.N
	case api.ActTwice:
		b.N, b.Delay = a.N, a.Delay
	case api.ActMask:
		b.Node, b.N, b.Delay = a.Node, a.N, a.Delay
	case api.ActLay:
		b.Node, b.Delay, b.Text = a.Node, a.Delay, a.Text
	case api.ActTell:
		b.Who, b.E = a.Who, a.E
		b.E.Session, b.E.Seq = 0, 0
	case api.ActAsk:
		b.Who, b.Delay = a.Who, a.Delay
	case api.ActFollow:
		b.Who, b.N, b.Name = a.Who, a.N, a.Name
	case api.ActRead:
		b.Who = a.Who
	}
	return b
}

// hasLine tells whether an act has a line.
func hasLine(a api.Act) bool {
	numbers, _ := places(&a)
	for _, f := range a.E.Fields {
		if f.V.Kind == api.Text {
			return false
		}
		numbers = append(numbers, &f.V.N)
	}
	for _, n := range numbers {
		if *n > most || *n < -most {
			return false
		}
	}
	if a.Kind == api.ActTell && event.Check(a.E) != api.OK || a.Kind == api.ActFollow && !event.Word(a.Name) || a.Kind == api.ActCut && a.N != 0 && a.N != 1 {
		return false
	}
	return a.Kind >= 0 && a.Kind <= 13 && same(a, named(a)) && len(a.Text) <= 1<<15
}

// anyAct is an act, most often one that has a line.
func anyAct(r *rand.Rand, known []pair) api.Act {
	a := known[r.Intn(len(known))].act
	if r.Intn(3) == 0 {
		a = api.Act{Kind: r.Intn(16) - 1}
	}
	numbers, texts := places(&a)
	for range r.Intn(4) {
		*numbers[r.Intn(len(numbers))] = []int{0, 1, -1, r.Intn(99), r.Int(), -r.Int(), most, most + 1}[r.Intn(8)]
	}
	for range r.Intn(3) {
		*texts[r.Intn(3)] = []string{"", "a", "p", "p q", "x\n", add("q", "b ; a"), add("q", "b\n"), "\x01"}[r.Intn(8)]
	}
	if r.Intn(3) == 0 {
		a.E = badEvents()[r.Intn(len(badEvents()))]
	}
	if r.Intn(2) == 0 {
		a = named(a)
	}
	return a
}

func TestAnyActs(t *testing.T) {
	r, known, yes := draws(), pairs(), 0
	for i := range 60000 {
		a := anyAct(r, known)
		if !hasLine(a) {
			silent(t, a)
			continue
		}
		yes++
		s, e := tale.Show(a)
		if e != api.OK {
			t.Fatalf("%d: Show(%s): %d", i, short(a), e)
		}
		says(t, s, a)
	}
	if yes < 15000 || yes > 45000 {
		t.Errorf("%d of 60000 have lines", yes)
	}
}

// R3

func TestLinesShareNothing(t *testing.T) {
	within := func(s, of string) bool {
		p, q := uintptr(unsafe.Pointer(unsafe.StringData(s))), uintptr(unsafe.Pointer(unsafe.StringData(of)))
		return len(s) > 0 && p >= q && p < q+uintptr(len(of))
	}
	for _, s := range []string{"follow 0 pattern 5", "tell 0 kind 5 field=3 other=#0000000000000000", "add 0 0 pattern a ; b", "lay 0 0 010203"} {
		a, _ := tale.Read(s)
		for _, part := range []string{a.Name, a.Text, a.E.Kind} {
			if within(part, s) {
				t.Errorf("%q of %q shares memory with it", part, s)
			}
		}
		for _, f := range a.E.Fields {
			if within(f.Name, s) {
				t.Errorf("%q of %q shares memory with it", f.Name, s)
			}
		}
		if line, _ := tale.Show(a); within(line, s) || within(a.Name, line) || within(a.Text, line) || within(a.E.Kind, line) {
			t.Errorf("the line of %q shares memory with its act", s)
		}
	}
	e := of(5, "a", whole("x", 1), number("y", 2))
	tale.Show(tells(0, e))
	if !same(tells(0, e), tells(0, of(5, "a", whole("x", 1), number("y", 2)))) {
		t.Errorf("Show changed the event to %v", e)
	}
}
