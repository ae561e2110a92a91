package sm_test

import (
	"fmt"
	"math"
	"slices"
	"strings"
	"testing"

	"auspice/api"
	"auspice/sm"
)

// 19.2

func TestNew(t *testing.T) {
	m := sm.New()
	if m.Index() != 0 {
		t.Errorf("Index of New: %d", m.Index())
	}
	has(t, m, 0, 0, nil)
	is(t, m, "p", "", 0, api.ErrNone)
	finds(t, m, "p", 0, 9, nil, 0, api.ErrNone)
	if sm.New() == m {
		t.Error("two machines are one")
	}
}

func TestExample(t *testing.T) {
	m := sm.New()
	comes(t, m, add("p", "a ; b"), 1, api.OK)
	comes(t, m, api.Cmd{Kind: api.CmdOpen}, 2, api.OK)
	comes(t, m, of(2, 1, 5, "a"), 1, api.OK)
	comes(t, m, of(2, 2, 6, "b"), 2, api.OK)
	comes(t, m, of(2, 2, 6, "b"), 2, api.OK)
	finds(t, m, "p", 0, 9, []api.Match{match(0, 1)}, 1, api.OK)
	has(t, m, 2, 6, []api.Session{{ID: 2, Seq: 2}}, "p")
	is(t, m, "p", "a ; b", 0, api.OK)
}

// refuses fails, if an index may come, or changes something.
func refuses(t *testing.T, m *sm.Machine, index int) {
	t.Helper()
	was := m.Save()
	for _, s := range []string{"\x01", "", "\xff", command(t, add("new", "a"))} {
		if r := m.Apply(index, s); r != (api.Reply{Err: api.ErrArg}) {
			t.Errorf("at %d, behind %d, %x: %v", index, m.Index(), s, r)
		}
		if m.Save() != was {
			t.Fatalf("at %d, %x: something changed", index, s)
		}
	}
}

func TestIndexes(t *testing.T) {
	m := sm.New()
	for _, at := range []int{0, -1, math.MinInt, api.MaxIndex + 1, math.MaxInt} {
		refuses(t, m, at)
	}
	for _, at := range []int{1, 2, 5, 248, 1 << 32, api.MaxIndex - 1, api.MaxIndex} {
		if r := m.Apply(at, "\x01"); r != (api.Reply{N: at}) || m.Index() != at {
			t.Errorf("at %d: %v, Index %d", at, r, m.Index())
		}
		for _, late := range []int{at, at - 1, 1, 0, -1, math.MinInt, api.MaxIndex + 1, math.MaxInt} {
			refuses(t, m, late)
		}
	}
	if l := m.Sessions(); len(l) != 7 || l[6].ID != api.MaxIndex {
		t.Errorf("the sessions are %v", l)
	}
}

func TestTextsOfNoCommandTakeAnIndex(t *testing.T) {
	m := sm.New()
	id := opened(t, m)
	comes(t, m, add("p", "a"), 1, api.OK)
	for i, s := range []string{"", "\x00", "\x07", "\x01\x00", "\x03", "\x03\x00", "\x05\x01P", "\xff", "\x02\x01\x00\x00\x01a\x00", "\x02\x00\x01\x00\x01a\x00", strings.Repeat("\x01", 70000)} {
		at := 10 * (i + 1)
		if r := m.Apply(at, s); r != (api.Reply{Err: api.ErrForm}) {
			t.Errorf("%.40x: %v", s, r)
		}
		if m.Index() != at {
			t.Errorf("behind %.40x, Index is %d, not %d", s, m.Index(), at)
		}
		has(t, m, 0, 0, []api.Session{{ID: id}}, "p")
	}
}

// fails fails, if a command is not answered with an error, or if more than the index changes.
func fails(t *testing.T, m *sm.Machine, c api.Cmd, e api.Errno) {
	t.Helper()
	same := loaded(t, m.Save())
	comes(t, m, c, 0, e)
	same.Apply(m.Index(), "") // which changes the index alone
	if m.Save() != same.Save() {
		t.Errorf("%s, answered %d, changed something", short(c), e)
	}
}

func TestOpen(t *testing.T) {
	m := sm.New()
	var want []api.Session
	for range 32 {
		m.Apply(m.Index()+2, "")
		want = append(want, api.Session{ID: opened(t, m)})
	}
	has(t, m, 0, 0, want)
	fails(t, m, api.Cmd{Kind: api.CmdOpen}, api.ErrFull)
	fails(t, m, api.Cmd{Kind: api.CmdOpen}, api.ErrFull)
	comes(t, m, shut(30), 30, api.OK)
	want[9] = api.Session{ID: opened(t, m)}
	slices.SortFunc(want, func(a, b api.Session) int { return a.ID - b.ID })
	has(t, m, 0, 0, want)
	fails(t, m, api.Cmd{Kind: api.CmdOpen}, api.ErrFull)
}

func TestClose(t *testing.T) {
	m := sm.New()
	a, b, c := opened(t, m), opened(t, m), opened(t, m)
	comes(t, m, of(b, 1, 1, "x"), 1, api.OK)
	for _, id := range []int{4, 9, api.MaxIndex} {
		fails(t, m, shut(id), api.ErrNone)
	}
	comes(t, m, shut(b), b, api.OK)
	has(t, m, 1, 1, []api.Session{{ID: a}, {ID: c}})
	fails(t, m, shut(b), api.ErrNone)
	fails(t, m, of(b, 2, 1, "x"), api.ErrNone)
	comes(t, m, shut(c), c, api.OK)
	comes(t, m, shut(a), a, api.OK)
	has(t, m, 1, 1, nil)
}

func TestEventsCountOnce(t *testing.T) {
	m := sm.New()
	comes(t, m, add("p", "a"), 1, api.OK)
	a, b := opened(t, m), opened(t, m)
	fails(t, m, of(1, 1, 5, "a"), api.ErrNone)
	fails(t, m, of(a, 2, 5, "a"), api.ErrGap)
	comes(t, m, of(a, 1, 5, "a"), 1, api.OK)
	for _, stamp := range []int{5, 6, 0, api.MaxIndex} { // one that came is answered ahead of its stamp
		comes(t, m, of(a, 1, stamp, "a"), 1, api.OK)
		has(t, m, 1, 5, []api.Session{{ID: a, Seq: 1}, {ID: b}}, "p")
	}
	comes(t, m, of(a, 2, 5, "b"), 2, api.OK) // a stamp may be as the last one
	comes(t, m, of(a, 3, 7, "a"), 3, api.OK)
	comes(t, m, of(a, 2, 7, "a"), 2, api.OK) // one that came long ago is answered as it came, not as the last one
	comes(t, m, of(a, 1, 7, "a"), 1, api.OK)
	fails(t, m, of(a, 5, 7, "a"), api.ErrGap)
	comes(t, m, of(b, 1, 9, "a"), 1, api.OK)
	has(t, m, 4, 9, []api.Session{{ID: a, Seq: 3}, {ID: b, Seq: 1}}, "p")
	finds(t, m, "p", 0, 9, []api.Match{match(0), match(2), match(3)}, 3, api.OK)
}

func TestStampsThatFall(t *testing.T) {
	m := sm.New()
	comes(t, m, add("p", "a"), 1, api.OK)
	a, b := opened(t, m), opened(t, m)
	comes(t, m, of(a, 1, 5, "a"), 1, api.OK)
	for _, stamp := range []int{4, 0} {
		fails(t, m, of(a, 2, stamp, "a"), api.ErrStamp)
		fails(t, m, of(b, 1, stamp, "a"), api.ErrStamp)
		fails(t, m, of(b, 2, stamp, "a"), api.ErrGap)
		fails(t, m, of(9, 1, stamp, "a"), api.ErrNone)
	}
	comes(t, m, of(b, 1, 5, "a"), 1, api.OK) // it did not come as its stamp fell
	comes(t, m, of(a, 2, api.MaxIndex, "a"), 2, api.OK)
	fails(t, m, of(a, 3, api.MaxIndex-1, "a"), api.ErrStamp)
	has(t, m, 3, api.MaxIndex, []api.Session{{ID: a, Seq: 2}, {ID: b, Seq: 1}}, "p")
}

func TestStampsWithoutPatterns(t *testing.T) {
	m := sm.New()
	id := opened(t, m)
	comes(t, m, of(id, 1, 0, "a"), 1, api.OK)
	comes(t, m, of(id, 2, 3, "a"), 2, api.OK)
	fails(t, m, of(id, 3, 2, "a"), api.ErrStamp)
	comes(t, m, add("p", "a"), 1, api.OK)
	fails(t, m, of(id, 3, 2, "a"), api.ErrStamp) // though the pattern's engine knows no stamp yet
	comes(t, m, drop("p"), 0, api.OK)
	comes(t, m, shut(id), id, api.OK)
	id = opened(t, m)
	fails(t, m, of(id, 1, 2, "a"), api.ErrStamp)
	has(t, m, 2, 3, []api.Session{{ID: id}})
}

func TestAsManyEventsAsThereMayBe(t *testing.T) {
	m := loaded(t, num(9, api.MaxIndex-1, 4, 3, 1, 5, 8, 0)) // the session 5, of which 8 events came
	comes(t, m, add("p", "a"), 1, api.OK)
	comes(t, m, of(5, 9, 6, "a"), 9, api.OK)
	has(t, m, api.MaxIndex, 6, []api.Session{{ID: 5, Seq: 9}}, "p")
	finds(t, m, "p", 0, 9, []api.Match{match(api.MaxIndex - 1)}, 1, api.OK)
	fails(t, m, of(5, 10, 6, "a"), api.ErrLong)
	fails(t, m, of(5, 10, 5, "a"), api.ErrStamp)
	fails(t, m, of(5, 11, 7, "a"), api.ErrGap)
	fails(t, m, of(6, 1, 7, "a"), api.ErrNone)
	comes(t, m, of(5, 9, 1, "a"), 9, api.OK)
	comes(t, m, add("q", "a ; b"), 2, api.OK)
	is(t, m, "q", "a ; b", api.MaxIndex, api.OK)
	has(t, loaded(t, m.Save()), api.MaxIndex, 6, []api.Session{{ID: 5, Seq: 9}}, "p", "q")
}

func TestAdd(t *testing.T) {
	m := sm.New()
	for i, name := range []string{"m", "b", "z", "ab", "a", "b0", "b_", "abcdefghijklmnop"} {
		comes(t, m, add(name, fmt.Sprintf("a ; b[x=%d]", i)), i+1, api.OK)
		fails(t, m, add(name, "a ; b"), api.ErrThere)
		fails(t, m, add(name, "a ; ; b"), api.ErrThere)
	}
	has(t, m, 0, 0, nil, "a", "ab", "abcdefghijklmnop", "b", "b0", "b_", "m", "z")
	is(t, m, "m", "a ; b[x=0]", 0, api.OK)
	is(t, m, "abcdefghijklmnop", "a ; b[x=7]", 0, api.OK)
	for _, name := range []string{"", "c", "b1", "abcdefghijklmno", "abcdefghijklmnopq", "A"} {
		is(t, m, name, "", 0, api.ErrNone)
	}
	fails(t, m, add("c", "a ; b"), api.ErrFull)
	fails(t, m, add("c", "a ; ; b"), api.ErrSyntax)
	fails(t, m, add("m", "a ; b"), api.ErrThere)
	comes(t, m, drop("m"), 7, api.OK)
	comes(t, m, add("c", "a ; b"), 8, api.OK)
	fails(t, m, add("m", "a ; b"), api.ErrFull)
}

func TestAddOfNoPatterns(t *testing.T) {
	big := "a" + strings.Repeat(" ; (a ; a ; a){8,8}", 3)
	for _, count := range []int{0, 1, 8} {
		m := sm.New()
		for i := range count {
			comes(t, m, add(fmt.Sprint("p", i), "a"), i+1, api.OK)
		}
		for s, e := range map[string]api.Errno{
			"": api.ErrSyntax, " ": api.ErrSyntax, "a ;": api.ErrSyntax, "a;;b": api.ErrSyntax, "a ; (b": api.ErrSyntax, "a within x": api.ErrSyntax,
			"A": api.ErrLex, "a ; 01": api.ErrLex, "a\x00": api.ErrLex, "a ;; A": api.ErrLex,
			"a*": api.ErrTree, "!a": api.ErrTree, "a{1,9}": api.ErrTree, strings.Repeat("(", 2000) + "a": api.ErrSyntax, strings.Repeat("a;", 63) + "a": api.ErrLong,
			big: api.ErrBig, strings.Repeat(" ", 4096): api.ErrSyntax,
		} {
			fails(t, m, add("new", s), e)
		}
		is(t, m, "new", "", 0, api.ErrNone)
	}
}

func TestTextsOfPatternsAreKeptAsTheyStand(t *testing.T) {
	m := sm.New()
	for i, s := range []string{" a;b ", "(a)", "a{1,1}", "\ta\n;b", "a" + strings.Repeat(" ", 4095)} {
		name := string([]byte{byte('a' + i)})
		m.Apply(m.Index()+1, command(t, add(name, s)))
		is(t, m, name, s, 0, api.OK)
		is(t, loaded(t, m.Save()), name, s, 0, api.OK)
	}
}

func TestDrop(t *testing.T) {
	m := sm.New()
	fails(t, m, drop("p"), api.ErrNone)
	for i, name := range []string{"p", "q", "r"} {
		comes(t, m, add(name, "a"), i+1, api.OK)
	}
	id := opened(t, m)
	comes(t, m, of(id, 1, 1, "a"), 1, api.OK)
	fails(t, m, drop("o"), api.ErrNone)
	fails(t, m, drop("q0"), api.ErrNone)
	comes(t, m, drop("q"), 2, api.OK)
	fails(t, m, drop("q"), api.ErrNone)
	is(t, m, "q", "", 0, api.ErrNone)
	finds(t, m, "q", 0, 9, nil, 0, api.ErrNone)
	has(t, m, 1, 1, []api.Session{{ID: id, Seq: 1}}, "p", "r")
	finds(t, m, "r", 0, 9, []api.Match{match(0)}, 1, api.OK)
	comes(t, m, add("q", "b | a"), 3, api.OK) // anew, it knows nothing of what was
	is(t, m, "q", "b | a", 1, api.OK)
	finds(t, m, "q", 0, 9, nil, 0, api.OK)
	comes(t, m, of(id, 2, 1, "a"), 2, api.OK)
	finds(t, m, "q", 0, 9, []api.Match{match(1)}, 1, api.OK)
	for i, name := range []string{"r", "p", "q"} {
		comes(t, m, drop(name), 2-i, api.OK)
	}
	has(t, m, 2, 1, []api.Session{{ID: id, Seq: 2}})
}

// filled is a machine with the pattern p, to which so many events a came, so that there are as many matches; and the session that told them.
func filled(t *testing.T, n int) (m *sm.Machine, id int) {
	t.Helper()
	m = sm.New()
	comes(t, m, add("p", "a"), 1, api.OK)
	id = opened(t, m)
	for i := range n {
		comes(t, m, of(id, i+1, i, "a"), i+1, api.OK)
	}
	return m, id
}

// row are the matches of one event each, from one number to below another one.
func row(from, below int) []api.Match {
	var l []api.Match
	for n := from; n < below; n++ {
		l = append(l, match(n))
	}
	return l
}

func TestForget(t *testing.T) {
	m, _ := filled(t, 5)
	for _, name := range []string{"o", "p0", "q"} {
		fails(t, m, forget(name, 0), api.ErrNone)
		fails(t, m, forget(name, 9), api.ErrNone)
	}
	for _, n := range []int{6, 7, api.MaxIndex} {
		fails(t, m, forget("p", n), api.ErrArg)
	}
	comes(t, m, forget("p", 0), 0, api.OK)
	finds(t, m, "p", 0, 9, row(0, 5), 5, api.OK)
	comes(t, m, forget("p", 2), 2, api.OK)
	finds(t, m, "p", 1, 9, nil, 2, api.ErrGone)
	finds(t, m, "p", 2, 9, row(2, 5), 5, api.OK)
	comes(t, m, forget("p", 1), 2, api.OK) // those are gone; the first one that is kept is told
	comes(t, m, forget("p", 0), 2, api.OK)
	fails(t, m, forget("p", 6), api.ErrArg)
	comes(t, m, forget("p", 5), 5, api.OK)
	finds(t, m, "p", 5, 9, nil, 5, api.OK)
	comes(t, m, forget("p", 3), 5, api.OK)
	fails(t, m, forget("p", 6), api.ErrArg)
}

func TestMatches(t *testing.T) {
	m, id := filled(t, 64)
	finds(t, m, "p", 0, 99, row(0, 64), 64, api.OK)
	comes(t, m, of(id, 65, 99, "a"), 65, api.OK)
	finds(t, m, "p", 0, 99, nil, 1, api.ErrGone)
	finds(t, m, "p", 1, math.MaxInt, row(1, 65), 65, api.OK)
	finds(t, m, "p", 5, 2, row(5, 7), 7, api.OK)
	finds(t, m, "p", 5, 0, nil, 5, api.OK)
	finds(t, m, "p", 64, 9, row(64, 65), 65, api.OK)
	finds(t, m, "p", 65, 9, nil, 65, api.OK)
	for _, n := range []int{-1, math.MinInt} {
		finds(t, m, "p", n, 9, nil, 0, api.ErrArg)
		finds(t, m, "p", 5, n, nil, 0, api.ErrArg)
		finds(t, m, "p", 0, n, nil, 0, api.ErrArg)
		finds(t, m, "q", n, n, nil, 0, api.ErrNone)
	}
	for _, s := range noWords() {
		finds(t, m, s, 0, 9, nil, 0, api.ErrNone)
	}
}

func TestPatternsFindFromWhereTheyWereAdded(t *testing.T) {
	m := sm.New()
	id := opened(t, m)
	comes(t, m, add("all", "a ; b"), 1, api.OK)
	comes(t, m, of(id, 1, 1, "a"), 1, api.OK)
	comes(t, m, add("late", "a ; b"), 2, api.OK)
	comes(t, m, of(id, 2, 2, "a"), 2, api.OK)
	comes(t, m, of(id, 3, 3, "c"), 3, api.OK)
	comes(t, m, add("last", "b | a"), 3, api.OK)
	comes(t, m, of(id, 4, 4, "b"), 4, api.OK)
	is(t, m, "all", "a ; b", 0, api.OK)
	is(t, m, "late", "a ; b", 1, api.OK)
	is(t, m, "last", "b | a", 3, api.OK)
	finds(t, m, "all", 0, 9, []api.Match{match(0, 3), match(1, 3)}, 2, api.OK)
	finds(t, m, "late", 0, 9, []api.Match{match(1, 3)}, 1, api.OK)
	finds(t, m, "last", 0, 9, []api.Match{match(3)}, 1, api.OK)
}

func TestWholeEventsAreFed(t *testing.T) {
	m := sm.New()
	comes(t, m, add("p", "a[x>3] ; !c ; b within 9"), 1, api.OK)
	comes(t, m, add("q", "a[s='no']"), 2, api.OK)
	id := opened(t, m)
	for i, v := range []api.Event{
		{Stamp: 1, Kind: "a", Fields: []api.Field{{Name: "x", V: whole(3)}}},
		{Stamp: 1, Kind: "a", Fields: []api.Field{{Name: "s", V: api.Value{Kind: api.Text, S: "no"}}, {Name: "x", V: whole(4)}}},
		{Stamp: 2, Kind: "c"}, {Stamp: 2, Kind: "b"},
		{Stamp: 3, Kind: "a", Fields: []api.Field{{Name: "x", V: api.Value{Kind: api.Real, F: 3.5}}}},
		{Stamp: 12, Kind: "b"}, {Stamp: 13, Kind: "b"},
	} {
		v.Session, v.Seq = id, i+1
		comes(t, m, api.Cmd{Kind: api.CmdEvent, E: v}, i+1, api.OK)
	}
	finds(t, m, "p", 0, 9, []api.Match{match(4, 5)}, 1, api.OK)
	finds(t, m, "q", 0, 9, []api.Match{match(1)}, 1, api.OK)
}

func TestBookOfAsManyMatchesAsThereMayBe(t *testing.T) {
	p := basic()
	p.patterns[0].book = num(api.MaxIndex-1, 0)
	m := loaded(t, p.text())
	for i := range 3 { // what has no number any more is not kept; the event counts all the same
		comes(t, m, of(2, 4+i, 9, "b"), 4+i, api.OK)
		finds(t, m, "p", api.MaxIndex-1, 9, []api.Match{match(1, 3)}, api.MaxIndex, api.OK)
	}
	has(t, m, 6, 9, []api.Session{{ID: 2, Seq: 6}}, "p", "q")
	finds(t, loaded(t, m.Save()), "p", api.MaxIndex-1, 9, []api.Match{match(1, 3)}, api.MaxIndex, api.OK)
}

func TestNil(t *testing.T) {
	var m *sm.Machine
	for _, at := range []int{1, 0, -1, api.MaxIndex, math.MaxInt, math.MinInt} {
		for _, s := range []string{"\x01", "", "\xff"} {
			if r := m.Apply(at, s); r != (api.Reply{Err: api.ErrArg}) {
				t.Errorf("Apply of nil: %v", r)
			}
		}
		finds(t, m, "p", at, at, nil, 0, api.ErrArg)
	}
	if m.Index() != 0 {
		t.Errorf("Index of nil: %d", m.Index())
	}
	has(t, m, 0, 0, nil)
	is(t, m, "p", "", 0, api.ErrArg)
	is(t, m, "", "", 0, api.ErrArg)
	if s := m.Save(); s != "\x00\x00\x00\x01\x00\x00" {
		t.Errorf("Save of nil: %x", s)
	}
}

// R3

func TestAnswersAreNewMemory(t *testing.T) {
	m, id := filled(t, 3)
	was := m.Save()
	sessions, names := m.Sessions(), m.Names()
	l, _, _ := m.Matches("p", 0, 9)
	other, _, _ := m.Matches("p", 0, 9)
	sessions[0], names[0] = api.Session{ID: 9, Seq: 9}, "z"
	for i := range l {
		l[i].Picks[0] = 99
	}
	l[0] = api.Match{}
	if m.Save() != was || fmt.Sprint(other) != fmt.Sprint(row(0, 3)) {
		t.Errorf("as answers were changed, the machine or another answer did: %v", other)
	}
	sessions, names = m.Sessions(), m.Names()
	comes(t, m, shut(id), id, api.OK)
	comes(t, m, drop("p"), 0, api.OK)
	if sessions[0] != (api.Session{ID: id, Seq: 3}) || names[0] != "p" || fmt.Sprint(other) != fmt.Sprint(row(0, 3)) {
		t.Errorf("as the machine went on, answers became %v, %v, %v", sessions, names, other)
	}
}
