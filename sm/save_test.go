package sm_test

import (
	"math"
	"slices"
	"strings"
	"testing"

	"auspice/api"
	"auspice/bits"
	"auspice/sm"
)

// 19.3

// parts are what a machine's text is laid of.
type parts struct {
	index, count, stamp uint64
	sessions            string
	many                uint64
	patterns            []part
}

// part is what a pattern's text is laid of.
type part struct {
	name, text  string
	from        uint64
	track, book string
}

// text is the parts as a text.
func (p parts) text() string {
	s := num(p.index, p.count, p.stamp) + bits.Text(p.sessions) + num(p.many)
	for _, x := range p.patterns {
		s += bits.Text(x.name) + bits.Text(x.text) + num(x.from) + bits.Text(x.track) + bits.Text(x.book)
	}
	return s
}

// basic are the parts of the machine told.
func basic() parts {
	return parts{index: 9, count: 3, stamp: 7, sessions: num(1, 2, 3), many: 2, patterns: []part{
		{name: "p", text: "a ; b", from: 1, track: num(2, 7, 0, 1, 0, 6, 0, 0, 1), book: num(0, 0)},
		{name: "q", text: "(a) | c", from: 0, track: num(3, 7, 0, 0), book: num(1, 2, 1, 1, 1, 2)},
	}}
}

// told is a machine of which the text is known: it is that of basic.
func told(t *testing.T) *sm.Machine {
	t.Helper()
	m := sm.New()
	comes(t, m, add("q", "(a) | c"), 1, api.OK)
	id := opened(t, m)
	comes(t, m, of(id, 1, 5, "a"), 1, api.OK)
	comes(t, m, add("p", "a ; b"), 2, api.OK)
	comes(t, m, of(id, 2, 6, "a"), 2, api.OK)
	comes(t, m, of(id, 3, 7, "c"), 3, api.OK)
	comes(t, m, of(id, 3, 7, "c"), 3, api.OK)
	comes(t, m, forget("q", 1), 1, api.OK)
	comes(t, m, forget("q", 4), 0, api.ErrArg)
	return m
}

func TestSave(t *testing.T) {
	if s := sm.New().Save(); s != "\x00\x00\x00\x01\x00\x00" {
		t.Errorf("the text of New: %x", s)
	}
	m := told(t)
	for range 2 {
		if s := m.Save(); s != basic().text() {
			t.Errorf("the text of the machine told:\n%x, want\n%x", s, basic().text())
		}
	}
}

func TestLoad(t *testing.T) {
	m := loaded(t, basic().text())
	if m.Index() != 9 {
		t.Errorf("Index %d", m.Index())
	}
	has(t, m, 3, 7, []api.Session{{ID: 2, Seq: 3}}, "p", "q")
	is(t, m, "p", "a ; b", 1, api.OK)
	is(t, m, "q", "(a) | c", 0, api.OK)
	finds(t, m, "p", 0, 9, nil, 0, api.OK)
	finds(t, m, "q", 0, 9, nil, 1, api.ErrGone)
	finds(t, m, "q", 1, 9, []api.Match{match(1), match(2)}, 3, api.OK)
	if s := m.Save(); s != basic().text() {
		t.Errorf("the text of what was loaded: %x", s)
	}
	comes(t, m, of(2, 3, 0, "a"), 3, api.OK)
	comes(t, m, of(2, 4, 7, "b"), 4, api.OK)
	finds(t, m, "p", 0, 9, []api.Match{match(1, 3)}, 1, api.OK)
	n := loaded(t, sm.New().Save())
	if n.Index() != 0 {
		t.Errorf("Index of New, loaded: %d", n.Index())
	}
	has(t, n, 0, 0, nil)
	var none *sm.Machine
	has(t, loaded(t, none.Save()), 0, 0, nil)
}

// loads fails, if a text is not one of a machine, or is written as another one.
func loads(t *testing.T, what, s string) {
	t.Helper()
	m, e := sm.Load(s)
	if m == nil || e != api.OK {
		t.Errorf("Load of %s, %.200x: %v, %d", what, s, m, e)
	} else if w := m.Save(); w != s {
		t.Errorf("Load of %s, %.200x: written as %.200x", what, s, w)
	}
}

// none fails, if a text is one of a machine.
func none(t *testing.T, what, s string) {
	t.Helper()
	if m, e := sm.Load(s); m != nil || e != api.ErrForm {
		t.Errorf("Load of %s, %.200x: %v, %d", what, s, m, e)
	}
}

// with are the parts of basic, with a change.
func with(change func(p *parts)) string {
	p := basic()
	change(&p)
	return p.text()
}

// alone are the parts of a machine of one pattern, with a change.
func alone(change func(p *parts, x *part)) string {
	p := basic()
	p.many, p.patterns = 1, p.patterns[:1]
	change(&p, &p.patterns[0])
	return p.text()
}

func TestLoadOfNumbers(t *testing.T) {
	const top, beyond, last = api.MaxIndex, api.MaxIndex + 1, math.MaxUint64
	for what, change := range map[string]func(*parts){
		"the greatest Index":      func(p *parts) { p.index = top },
		"the least Index":         func(p *parts) { p.index = 2 },
		"the greatest Stamp":      func(p *parts) { p.stamp = math.MaxInt },
		"Stamp above all indexes": func(p *parts) { p.stamp = beyond },
		"no sessions, Index 0":    func(p *parts) { p.index, p.sessions = 0, num(0) },
		"no patterns":             func(p *parts) { p.many, p.patterns = 0, nil },
		"no patterns, any Count":  func(p *parts) { p.many, p.patterns, p.count = 0, nil, top },
		"a Stamp without events":  func(p *parts) { p.many, p.patterns, p.count, p.stamp = 0, nil, 0, 5 },
	} {
		loads(t, what, with(change))
	}
	for _, n := range []uint64{beyond, 1<<63 - 1, 1 << 63, 1<<63 + 9, last, last - 2} {
		none(t, "an Index beyond", with(func(p *parts) { p.index = n }))
		none(t, "a Count beyond", with(func(p *parts) { p.many, p.patterns, p.count = 0, nil, n }))
		none(t, "a From beyond", alone(func(p *parts, x *part) { x.from = n }))
		none(t, "a From beyond of a late pattern", with(func(p *parts) { p.patterns[1].from = n }))
	}
	for _, n := range []uint64{1 << 63, 1<<63 + 7, last} {
		none(t, "a Stamp beyond", with(func(p *parts) { p.stamp = n }))
		none(t, "a Stamp beyond, without patterns", with(func(p *parts) { p.many, p.patterns, p.stamp = 0, nil, n }))
	}
}

func TestLoadOfSessions(t *testing.T) {
	var l []uint64
	for i := range 33 {
		l = append(l, uint64(i)+1, api.MaxIndex)
	}
	loads(t, "32 sessions", with(func(p *parts) { p.index, p.sessions = 32, num(append([]uint64{32}, l[:64]...)...) }))
	loads(t, "a session of the Index", with(func(p *parts) { p.sessions = num(2, 2, 0, 9, 5) }))
	loads(t, "a great session", with(func(p *parts) { p.index, p.sessions = api.MaxIndex, num(1, api.MaxIndex, api.MaxIndex) }))
	for what, s := range map[string]string{
		"no text of sessions": "", "half a session": num(1, 2), "sessions and more": num(1, 2, 3, 4), "33 sessions": num(append([]uint64{33}, l...)...),
		"a session 0": num(1, 0, 0), "sessions that fall": num(2, 3, 0, 2, 0), "sessions alike": num(2, 2, 0, 2, 0), "a Seq beyond": num(1, 2, api.MaxIndex+1), "a long number": "\xf8\x01\x02\x03",
		"a session above the Index": num(1, 10, 0), "a late session above the Index": num(2, 2, 0, 10, 0), "one of two sessions above the Index": num(2, 9, 0, 10, 3), "a session far above it": num(1, api.MaxIndex, 0),
	} {
		none(t, what, with(func(p *parts) { p.sessions = s }))
	}
	none(t, "a session, Index 0", with(func(p *parts) { p.index, p.sessions = 0, num(1, 1, 0) }))
	none(t, "33 sessions, all indexes there", with(func(p *parts) { p.index, p.sessions = 99, num(append([]uint64{33}, l...)...) }))
}

// named are the parts of a machine with patterns of these names.
func named(names ...string) string {
	p := basic()
	x := p.patterns[0]
	p.many, p.patterns = uint64(len(names)), nil
	for _, name := range names {
		x.name = name
		p.patterns = append(p.patterns, x)
	}
	return p.text()
}

func TestLoadOfNames(t *testing.T) {
	eight := []string{"a", "a0", "a_", "aa", "b", "c", "d", "zzzzzzzzzzzzzzzz"}
	loads(t, "eight names", named(eight...))
	loads(t, "a long name", named("abcdefghijklmnop"))
	none(t, "nine names", named(append(eight[:7:7], "e", "f")...))
	for _, l := range [][]string{{"p", "p"}, {"q", "p"}, {"a", "b", "b"}, {"a", "c", "b"}, {"aa", "a"}, {"b", "a"}, {"a_", "a0"}, {"p", "p", "q"}} {
		none(t, "names that do not rise", named(l...))
	}
	for _, s := range noWords() {
		none(t, "no word", named(s))
		none(t, "no word behind one", named("a", s))
		none(t, "no word ahead of one", named(s, "zz"))
	}
	for _, n := range []uint64{0, 1, 3, 8, 9, 300, 1<<32 + 2, 1 << 63, 1<<63 + 2, math.MaxUint64} {
		none(t, "patterns that are not there, or more than are said", with(func(p *parts) { p.many = n }))
	}
}

func TestLoadOfTextsOfPatterns(t *testing.T) {
	long := "a;b" + strings.Repeat(" ", 4093)
	loads(t, "a long text", alone(func(p *parts, x *part) { x.text = long }))
	loads(t, "a text with blanks and brackets", alone(func(p *parts, x *part) { x.text = "  ((a) ;\n b)  " }))
	for _, s := range []string{"", " ", "A", "a;", "a;;b", "a ; b)", "a*", "!a", "a{1,9}", "a ; 01", long + " ", "a ; b" + strings.Repeat(" ", 1<<17), "a" + strings.Repeat(" ; (a ; a ; a){8,8}", 3)} {
		none(t, "a text of no machine", alone(func(p *parts, x *part) { x.text = s }))
		none(t, "a late text of no machine", with(func(p *parts) { p.patterns[1].text = s }))
	}
	none(t, "a text whose machine has no such state", alone(func(p *parts, x *part) { x.text, x.track = "a ; b", num(2, 7, 0, 1, 0, 6, 2, 0, 1) }))
	none(t, "a text in whose machine that state leads nowhere", alone(func(p *parts, x *part) { x.text = "a" }))
	none(t, "a text without the guard that was seen", alone(func(p *parts, x *part) { x.track = num(2, 7, 0, 1, 0, 6, 0, 1, 1) }))
	loads(t, "a text with the guard that was seen", alone(func(p *parts, x *part) { x.text, x.track = "a ; !c ; b", num(2, 7, 0, 1, 0, 6, 0, 1, 1) }))
}

func TestLoadOfTracks(t *testing.T) {
	for what, s := range map[string]string{
		"no runs": num(2, 7, 0, 0), "an early Stamp": num(2, 6, 0, 1, 0, 6, 0, 0, 1), "runs that were lost": num(2, 7, api.MaxIndex, 0), "two runs": num(2, 7, 0, 2, 0, 6, 0, 0, 1, 1, 7, 0, 0, 1), "Stamp 0": num(2, 0, 0, 0),
	} {
		loads(t, what, alone(func(p *parts, x *part) { x.track = s }))
	}
	loads(t, "a track of no events", alone(func(p *parts, x *part) { x.from, x.track = 3, num(0, 0, 0, 0) }))
	loads(t, "a track of all events", alone(func(p *parts, x *part) { x.from, x.track = 0, num(3, 7, 0, 0) }))
	loads(t, "a great Stamp", alone(func(p *parts, x *part) { p.stamp, x.track = math.MaxInt, num(2, math.MaxInt, 0, 0) }))
	for what, s := range map[string]string{
		"no track": "", "half a track": num(2, 7, 0), "a track and more": num(2, 7, 0, 0, 0), "a run that is missing": num(2, 7, 0, 1), "a long number": "\xf8\x02\x07\x00\x00", "Lost beyond": num(2, 7, api.MaxIndex+1, 0), "65 runs": num(2, 7, 0, 65),
		"a Count too small": num(1, 7, 0, 0), "a Count too great": num(3, 7, 0, 0), "Count 0": num(0, 0, 0, 0), "a Count beyond": num(api.MaxIndex+1, 7, 0, 0), "a Count of 2^63": num(1<<63+2, 7, 0, 0),
		"a Stamp above": num(2, 8, 0, 0), "a Stamp far above": num(2, math.MaxInt, 0, 0), "a Stamp of 2^63": num(2, 1<<63, 0, 0),
		"a run's Stamp above": num(2, 7, 0, 1, 0, 8, 0, 0, 1), "a pick of no event": num(2, 7, 0, 1, 2, 6, 0, 0, 1), "runs that fall": num(2, 7, 0, 2, 1, 7, 0, 0, 1, 0, 6, 0, 0, 1), "a run twice": num(2, 7, 0, 2, 0, 6, 0, 0, 1, 0, 6, 0, 0, 1), "a state that leads nowhere": num(2, 7, 0, 1, 0, 6, 1, 0, 1), "a run without picks": num(2, 7, 0, 1, 0, 6, 0, 0, 0),
	} {
		none(t, what, alone(func(p *parts, x *part) { x.track = s }))
		none(t, what+", late", with(func(p *parts) { p.patterns[1] = part{name: "q", text: "a ; b", from: 1, track: s, book: num(0, 0)} }))
	}
	none(t, "a From that the Count does not fit", alone(func(p *parts, x *part) { x.from = 2 }))
	for _, n := range []uint64{1, 2, 5} {
		none(t, "a From below 0, which the Count would fit", alone(func(p *parts, x *part) { x.from, x.track = -n, num(3+n, 7, 0, 0) }))
	}
	none(t, "a From of 0", alone(func(p *parts, x *part) { x.from = 0 }))
	none(t, "a From above Count, with a track of no events", alone(func(p *parts, x *part) { x.from, x.track = 4, num(0, 0, 0, 0) }))
	none(t, "a From 2^39 above Count", alone(func(p *parts, x *part) { x.from = api.MaxIndex }))
	none(t, "a Count that the tracks do not fit", with(func(p *parts) { p.count = 4 }))
	none(t, "a Stamp that a track is above", with(func(p *parts) { p.stamp = 6 }))
}

func TestLoadOfBooks(t *testing.T) {
	for what, s := range map[string]string{
		"an empty book": num(0, 0), "one of a great Base": num(api.MaxIndex, 0), "one match": num(5, 1, 1, 3), "a match of events to come": num(0, 1, 2, 500, api.MaxIndex),
	} {
		loads(t, what, alone(func(p *parts, x *part) { x.book = s }))
	}
	for what, s := range map[string]string{
		"no book": "", "half a book": num(0), "a book and more": num(0, 0, 0), "a match that is missing": num(0, 1), "a match without picks": num(0, 1, 0), "picks that fall": num(0, 1, 2, 5, 4), "a pick beyond": num(0, 1, 1, api.MaxIndex+1), "65 matches": num(append([]uint64{0, 65}, slices.Repeat([]uint64{1, 1}, 65)...)...), "a Base beyond": num(api.MaxIndex+1, 0), "an End beyond": num(api.MaxIndex, 1, 1, 1), "a long number": "\xf8\x00\x00",
	} {
		none(t, what, alone(func(p *parts, x *part) { x.book = s }))
		none(t, what+", late", with(func(p *parts) { p.patterns[1].book = s }))
	}
}

func TestLoadOfNoLayout(t *testing.T) {
	s := basic().text()
	for i := range len(s) {
		none(t, "a beginning", s[:i])
	}
	for _, more := range []string{"\x00", "\x01", "\xff", s} {
		none(t, "a text with more behind", s+more)
		none(t, "a text with more behind", sm.New().Save()+more)
	}
	for what, s := range map[string]string{
		"nothing": "", "a long Index": "\xf8\x00\x00\x00\x01\x00\x00", "a long Count": "\x00\xf8\x00\x00\x01\x00\x00", "a long Stamp": "\x00\x00\xf8\x00\x01\x00\x00", "a long length": "\x00\x00\x00\xf8\x01\x00\x00", "a long number of patterns": "\x00\x00\x00\x01\x00\xf8\x00", "sessions as long as 2^63": "\x00\x00\x00" + num(1<<63) + "\x00\x00", "very long sessions": "\x00\x00\x00" + num(math.MaxUint64) + "\x00\x00",
	} {
		none(t, what, s)
	}
	none(t, "very many bytes", strings.Repeat("\x00", 1<<20))
	none(t, "very long sessions that are there", num(0, 0, 0)+bits.Text(strings.Repeat("\x00", 1<<20))+num(0))
}

// fullest are the parts of a machine as great as there may be: as many sessions, patterns, runs, picks and matches as may be, all of great numbers.
func fullest() parts {
	const top, apart = api.MaxIndex, 1 << 35
	p := parts{index: top, count: top, stamp: math.MaxInt, sessions: num(32), many: 8}
	for i := range uint64(32) {
		p.sessions += num(top-32+i, top)
	}
	guards := strings.Repeat("a;", 15) + strings.Repeat("!c;", 15) + "a"
	x := part{text: "(" + guards + "){2,2}", from: 0, track: num(top, math.MaxInt, top, 64), book: num(top-64, 64)}
	x.text += strings.Repeat(" ", 4096-len(x.text))
	for i := range uint64(64) {
		x.track += num(1<<32+i, math.MaxInt, 14, 1<<15-1, 15)
		x.book += num(16)
		for range 14 {
			x.track += num(apart)
		}
		for k := range uint64(16) {
			x.book += num(1<<32 + i + apart/2*k)
		}
	}
	for i := range 8 {
		x.name = "abcdefghijklmno" + string([]byte{byte('a' + i)})
		p.patterns = append(p.patterns, x)
	}
	return p
}

func TestTheFullestMachineFits(t *testing.T) {
	s := fullest().text()
	loads(t, "the fullest machine", s)
	if len(s) < 100000 || len(s) > api.MaxSnap {
		t.Errorf("the text of the fullest machine has %d bytes", len(s))
	}
}

func TestAnyBytesAsMachines(t *testing.T) {
	r := draws()
	read := 0
	for range 50000 {
		s := changed(r, basic().text())
		m, e := sm.Load(s)
		if e != api.OK {
			none(t, "changed bytes", s)
			continue
		}
		read++
		if w := m.Save(); w != s {
			t.Fatalf("Load of %x: written as %x", s, w)
		}
	}
	if read < 3000 {
		t.Errorf("only %d texts were read", read)
	}
}

func TestWhatIsLoadedSharesNothing(t *testing.T) {
	s := basic().text()
	a, b := loaded(t, s), loaded(t, s)
	comes(t, a, of(2, 4, 9, "b"), 4, api.OK)
	comes(t, a, drop("q"), 1, api.OK)
	comes(t, a, shut(2), 2, api.OK)
	if b.Save() != s {
		t.Errorf("as one machine went on, another one became %x", b.Save())
	}
}
