package engine_test

import (
	"fmt"
	"math"
	"slices"
	"strings"
	"testing"
	"unsafe"

	"auspice/api"
	"auspice/engine"
)

// 13.2

// guarded is a machine of three atoms, the last of which leads nowhere, and two guards.
func guarded() api.Machine {
	return api.Machine{
		Atoms: []api.Node{{Op: api.NodeAtom, Kind: "a"}, {Op: api.NodeAtom, Kind: "b"}, {Op: api.NodeAtom, Kind: "c"}}, Nots: append(atoms(1, "x"), atoms(1, "y")...),
		Starts: []int{0, 1}, Moves: [][]api.Move{{{To: 1, Guards: []int{0}}, {To: 2}}, {{To: 2, Guards: []int{1}}}, nil}, Final: []bool{false, false, true}, Within: 100,
	}
}

// track is a track that an engine of that machine may know.
func track() api.Track {
	return api.Track{Count: 20, Stamp: 50, Lost: 4, Runs: []api.Run{
		{Begin: 2, Stamp: 10, Picks: []int{2}},
		{Begin: 2, Stamp: 10, Picks: []int{2}, Seen: 1},
		{Begin: 2, Stamp: 10, Picks: []int{2}, State: 1},
		{Begin: 2, Stamp: 10, Picks: []int{2, 5}, State: 1, Seen: 3},
		{Begin: 2, Stamp: 10, Picks: []int{2, 7, 19}},
		{Begin: 3, Stamp: 50, Picks: []int{3, 4}, State: 1, Seen: 2},
	}}
}

// asKnown fails, if an engine that knows a track tells another one.
func asKnown(t *testing.T, what string, m api.Machine, k api.Track) {
	t.Helper()
	g, e := engine.Resume(m, k)
	if g == nil || e != api.OK || fmt.Sprintf("%+v", g.Track()) != fmt.Sprintf("%+v", k) || fmt.Sprintf("%+v", g.Machine()) != fmt.Sprintf("%+v", m) {
		t.Errorf("%s: %v, %s of %s", what, e, shown(g.Track()), shown(k))
	}
}

func TestTracksThatMayBeKnown(t *testing.T) {
	for what, change := range map[string]func(k *api.Track){
		"all":                     func(k *api.Track) {},
		"nothing":                 func(k *api.Track) { *k = api.Track{} },
		"the greatest Count":      func(k *api.Track) { k.Count = api.MaxIndex },
		"the greatest Stamp":      func(k *api.Track) { k.Stamp = math.MaxInt },
		"the greatest Lost":       func(k *api.Track) { k.Lost = api.MaxIndex },
		"Lost 0":                  func(k *api.Track) { k.Lost = 0 },
		"lost ones of no events":  func(k *api.Track) { *k = api.Track{Lost: 3} },
		"the least Begin":         func(k *api.Track) { k.Runs[0] = api.Run{Picks: []int{0}} },
		"the greatest pick":       func(k *api.Track) { k.Count = api.MaxIndex; k.Runs[5].Picks[1] = api.MaxIndex - 1 },
		"the last event":          func(k *api.Track) { k.Runs[5].Picks[1] = 19 },
		"15 picks":                func(k *api.Track) { k.Runs[5].Picks = row(3, 15) },
		"one pick":                func(k *api.Track) { k.Runs[5].Picks = []int{3} },
		"a run's Stamp 0":         func(k *api.Track) { k.Runs[5].Stamp = 0 },
		"stamps that fall":        func(k *api.Track) { k.Runs[5].Stamp = 9 },
		"all guards seen":         func(k *api.Track) { k.Runs[5].Seen = 3 },
		"64 runs":                 func(k *api.Track) { *k = full(64) },
		"a pick behind the other": func(k *api.Track) { k.Runs[5].Picks = []int{3, 4, 5, 6} },
		"runs that are too late":  func(k *api.Track) { k.Stamp = 1000 },
		"runs of other Begins":    func(k *api.Track) { k.Runs = append(k.Runs, api.Run{Begin: 4, Stamp: 1, Picks: []int{4}}) },
		"Picks ahead of State":    func(k *api.Track) { k.Runs[4].Seen, k.Runs[3].State = 0, 1 },
		"State ahead of Seen":     func(k *api.Track) { k.Runs[1].Seen, k.Runs[2].Seen = 3, 0 },
	} {
		k := track()
		change(&k)
		asKnown(t, what, guarded(), k)
	}
	m := wide(64, 64)
	k := api.Track{Count: 1, Runs: []api.Run{{Picks: []int{0}, Seen: 1<<64 - 1}, {Picks: []int{0}, State: 62, Seen: 1 << 63}}}
	asKnown(t, "the highest guard", m, k)
}

// wrongTracks are changes that make a track one that may not be known.
func wrongTracks() map[string]func(k *api.Track) {
	return map[string]func(k *api.Track){
		"Count -1":             func(k *api.Track) { *k = api.Track{Count: -1} },
		"the least Count":      func(k *api.Track) { *k = api.Track{Count: math.MinInt} },
		"a Count too great":    func(k *api.Track) { k.Count = api.MaxIndex + 1 },
		"the greatest Count":   func(k *api.Track) { k.Count = math.MaxInt },
		"Stamp -1":             func(k *api.Track) { *k = api.Track{Stamp: -1} },
		"the least Stamp":      func(k *api.Track) { *k = api.Track{Stamp: math.MinInt} },
		"Lost -1":              func(k *api.Track) { k.Lost = -1 },
		"the least Lost":       func(k *api.Track) { k.Lost = math.MinInt },
		"a Lost too great":     func(k *api.Track) { k.Lost = api.MaxIndex + 1 },
		"the greatest Lost":    func(k *api.Track) { k.Lost = math.MaxInt },
		"65 runs":              func(k *api.Track) { *k = full(65) },
		"very many runs":       func(k *api.Track) { *k = full(1000); k.Count = 5000 },
		"State -1":             func(k *api.Track) { k.Runs[0].State = -1 },
		"a State that is none": func(k *api.Track) { k.Runs[5].State = 3 },
		"a far State":          func(k *api.Track) { k.Runs[5].State = math.MaxInt },
		"a State without move": func(k *api.Track) { k.Runs[5].State = 2 },
		"no picks":             func(k *api.Track) { k.Runs[0].Picks = nil },
		"no picks at the end":  func(k *api.Track) { k.Runs[5].Picks = []int{} },
		"16 picks":             func(k *api.Track) { k.Runs[5].Picks = row(3, 16) },
		"very many picks":      func(k *api.Track) { k.Count = 5000; k.Runs[5].Picks = row(3, 1000) },
		"picks alike":          func(k *api.Track) { k.Runs[5].Picks = []int{3, 3} },
		"picks that fall":      func(k *api.Track) { k.Runs[5].Picks = []int{3, 2} },
		"late picks alike":     func(k *api.Track) { k.Runs[5].Picks = []int{3, 4, 5, 6, 6} },
		"late picks that fall": func(k *api.Track) { k.Runs[5].Picks = []int{3, 4, 5, 6, 1} },
		"another Begin":        func(k *api.Track) { k.Runs[5].Begin = 4 },
		"a Begin less":         func(k *api.Track) { k.Runs[5].Picks[0], k.Runs[5].Begin = 3, 2 },
		"another first pick":   func(k *api.Track) { k.Runs[5].Picks = []int{4, 5} },
		"Begin -1":             func(k *api.Track) { k.Runs[0] = api.Run{Begin: -1, Picks: []int{-1}} },
		"the least Begin":      func(k *api.Track) { k.Runs[0] = api.Run{Begin: math.MinInt, Picks: []int{math.MinInt, 4}} },
		"a pick to come":       func(k *api.Track) { k.Runs[5].Picks[1] = 20 },
		"a far pick":           func(k *api.Track) { k.Runs[5].Picks[1] = math.MaxInt },
		"a Begin to come":      func(k *api.Track) { k.Runs[5] = api.Run{Begin: 20, Picks: []int{20}} },
		"a run of no events":   func(k *api.Track) { *k = api.Track{Runs: []api.Run{{Picks: []int{0}}}} },
		"a run's Stamp -1":     func(k *api.Track) { k.Runs[5].Stamp = -1 },
		"a run's least Stamp":  func(k *api.Track) { k.Runs[5].Stamp = math.MinInt },
		"a run's Stamp above":  func(k *api.Track) { k.Runs[5].Stamp = 51 },
		"a run's far Stamp":    func(k *api.Track) { k.Runs[5].Stamp = math.MaxInt },
		"a guard of none":      func(k *api.Track) { k.Runs[5].Seen = 4 },
		"a guard of none, too": func(k *api.Track) { k.Runs[5].Seen = 7 },
		"the highest guard":    func(k *api.Track) { k.Runs[5].Seen = 1 << 63 },
		"a run twice":          func(k *api.Track) { k.Runs = append(k.Runs, k.Runs[5]) },
		"a run twice ahead":    func(k *api.Track) { k.Runs[1] = k.Runs[0] },
		"Begins that fall":     func(k *api.Track) { k.Runs = append(k.Runs, api.Run{Begin: 1, Picks: []int{1}}) },
		"Picks that fall":      func(k *api.Track) { k.Runs[3].Picks = []int{2, 8} },
		"the longer first":     func(k *api.Track) { k.Runs[2].Picks = []int{2, 5, 6} },
		"States that fall":     func(k *api.Track) { k.Runs[1].State, k.Runs[2].State = 1, 0 },
		"Seen that falls":      func(k *api.Track) { k.Runs[0].Seen = 2 },
		"Stamps of one Begin":  func(k *api.Track) { k.Runs[1].Stamp = 11 },
		"Stamps below":         func(k *api.Track) { k.Runs[4].Stamp = 9 },
		"Stamps of a run twice": func(k *api.Track) {
			k.Runs = append(k.Runs, k.Runs[5])
			k.Runs[6].Stamp = 10
		},
	}
}

func TestTracksThatMayNotBeKnown(t *testing.T) {
	for what, change := range wrongTracks() {
		k := track()
		change(&k)
		if g, e := engine.Resume(guarded(), k); g != nil || e != api.ErrArg {
			t.Errorf("Resume of %s: %v, %v: %s", what, g, e, shown(k))
		}
	}
	m := guarded()
	m.Nots, m.Moves[0][0].Guards, m.Moves[1][0].Guards = nil, nil, nil
	k := api.Track{Count: 1, Runs: []api.Run{{Picks: []int{0}, Seen: 1}}}
	if g, e := engine.Resume(m, k); g != nil || e != api.ErrArg {
		t.Errorf("Resume of a guard of no guards: %v, %v", g, e)
	}
	m = wide(64, 63)
	k.Runs[0].Seen = 1 << 63
	if g, e := engine.Resume(m, k); g != nil || e != api.ErrArg {
		t.Errorf("Resume of the highest guard of 63: %v, %v", g, e)
	}
}

func TestAResumedEngineGoesOn(t *testing.T) {
	g := resumed(t, guarded(), track())
	if got := fed(g, "a@49 x@50 y@51 c@60"); got != "E130 - - 2.7.19.22,2.22" {
		t.Errorf("a resumed engine: %s", got)
	}
	knows(t, "a resumed engine", g, "23 @60 -4 2>1@10!3 2.5>1@10!3 3.4>1@50!3")
	fed(g, "x@110 x@111")
	knows(t, "some are too late", g, "25 @111 -4 3.4>1@50!3")
	// Guards that were seen ahead count.
	k := api.Track{Count: 9, Stamp: 3, Runs: []api.Run{{Begin: 1, Picks: []int{1}}, {Begin: 2, Picks: []int{2}, Seen: 1}, {Begin: 3, Picks: []int{3}, Seen: 2}, {Begin: 4, Picks: []int{4}, Seen: 3}}}
	m := made(t, "a;!x;b | a;!y;b | a;c")
	m.Starts = nil
	g = resumed(t, m, k)
	if got := fed(g, "b@3"); got != "1.9,3.9" {
		t.Errorf("guards that were seen: %s", got)
	}
	knows(t, "guards that were seen", g, "10 @3 -0 2>0@0!1 4>0@0!3")
}

// Events are numbered on from the Count.
func TestCountsGoOn(t *testing.T) {
	g := resumed(t, made(t, "a"), api.Track{Count: 300, Stamp: 7})
	if got := fed(g, "a@6 a@7 b@7 a@8"); got != "E130 300 - 302" {
		t.Errorf("from 300 on: %s", got)
	}
	knows(t, "from 300 on", g, "303 @8 -0")
}

// R3

// spoil changes all lists of a machine.
func spoil(m api.Machine) {
	for _, l := range [][]api.Node{m.Atoms, m.Nots} {
		for i := range l[:cap(l)] {
			n := &l[:cap(l)][i]
			clear(n.Conds[:cap(n.Conds)])
			clear(n.Kids[:cap(n.Kids)])
			*n = api.Node{Op: 77}
		}
	}
	for _, l := range m.Moves {
		for i := range l[:cap(l)] {
			g := l[:cap(l)][i].Guards
			fill(g[:cap(g)], 99)
			l[:cap(l)][i] = api.Move{To: 88}
		}
	}
	clear(m.Moves[:cap(m.Moves)])
	fill(m.Starts[:cap(m.Starts)], 55)
	clear(m.Final[:cap(m.Final)])
}

// spoilTrack changes all lists of a track.
func spoilTrack(k api.Track) {
	for i := range k.Runs {
		p := k.Runs[i].Picks
		fill(p[:cap(p)], 66)
	}
	for i := range k.Runs[:cap(k.Runs)] {
		k.Runs[:cap(k.Runs)][i] = api.Run{State: 77}
	}
}

func fill(l []int, n int) {
	for i := range l {
		l[i] = n
	}
}

func TestNothingIsShared(t *testing.T) {
	const events = "a@60 b@61 x@62 c@63 a@64 y@65 a@66 b@67 c@68"
	want := resumed(t, guarded(), track())
	machine := fmt.Sprintf("%+v", want.Machine())
	m, k := guarded(), track()
	g := resumed(t, m, k)
	if fmt.Sprintf("%+v %+v", m, k) != fmt.Sprintf("%+v %+v", guarded(), track()) {
		t.Errorf("Resume changed its arguments: %+v, %+v", m, k)
	}
	spoil(m)
	spoilTrack(k)
	for _, s := range strings.Fields(events) {
		l, e := g.Feed(told(s))
		wanted, f := want.Feed(told(s))
		if answer(l, e) != answer(wanted, f) {
			t.Fatalf("the event %s: %s, want %s", s, answer(l, e), answer(wanted, f))
		}
		for _, x := range l {
			fill(x.Picks[:cap(x.Picks)], 44)
		}
		spoilTrack(g.Track())
		spoil(g.Machine())
		knows(t, "behind what was spoilt", g, shown(want.Track()))
		if got := fmt.Sprintf("%+v", g.Machine()); got != machine {
			t.Errorf("the machine became %s", got)
		}
	}
	m = guarded()
	g = begun(t, m)
	spoil(m)
	if got, wanted := fed(g, events), fed(begun(t, guarded()), events); got != wanted {
		t.Errorf("a machine that was spoilt: %s, want %s", got, wanted)
	}
}

// What is kept of a machine are no bytes of what was handed in, and what is answered of it none of these.
func TestTextsAreNewMemory(t *testing.T) {
	b := []byte("kind")
	s := unsafe.String(&b[0], len(b))
	cond := api.Cond{Name: s, Op: api.Eq, V: api.Value{Kind: api.Text, S: s}}
	m := api.Machine{Atoms: []api.Node{{Op: api.NodeAtom, Kind: s, Conds: []api.Cond{cond}}}, Nots: []api.Node{{Op: api.NodeAtom, Kind: s, Conds: []api.Cond{cond}}}, Starts: []int{0}, Moves: make([][]api.Move, 1), Final: []bool{true}}
	g := begun(t, m)
	copy(b, "????")
	got := g.Machine()
	for _, n := range []api.Node{got.Atoms[0], got.Nots[0]} {
		for _, k := range []string{n.Kind, n.Conds[0].Name, n.Conds[0].V.S} {
			if k != "kind" {
				t.Errorf("a text became %q", k)
			}
			copy(unsafe.Slice(unsafe.StringData(k), len(k)), "!!!!")
		}
	}
	if now := g.Machine(); now.Atoms[0].Kind != "kind" || now.Nots[0].Conds[0].V.S != "kind" {
		t.Errorf("the texts of an answer were kept: %+v", now)
	}
}

func TestListsOfOneAnswerShareNothing(t *testing.T) {
	// Runs that went on in two ways have picks of their own, and so have matches.
	m := api.Machine{Atoms: atoms(2, "a"), Starts: []int{0, 1}, Moves: [][]api.Move{{{To: 0}, {To: 1}}, {{To: 0}, {To: 1}}}, Final: []bool{true, true}}
	g := begun(t, m)
	fed(g, "a a")
	l, _ := g.Feed(told("a"))
	for i, x := range l {
		rest := slices.Clone(l[i+1:])
		was := fmt.Sprint(rest)
		fill(x.Picks[:cap(x.Picks)], 44)
		if now := fmt.Sprint(rest); now != was {
			t.Errorf("matches share picks: %s became %s", was, now)
		}
	}
	k := g.Track()
	for i, r := range k.Runs {
		was := fmt.Sprint(k.Runs[i+1:])
		fill(r.Picks[:cap(r.Picks)], 44)
		if now := fmt.Sprint(k.Runs[i+1:]); now != was {
			t.Errorf("runs share picks: %s became %s", was, now)
		}
	}
	knows(t, "what is shared within", g, "3 @0 -0 0.1.2>0@0 0.1.2>1@0 1.2>0@0 1.2>1@0 2>0@0 2>1@0")
	fed(g, "a")
	knows(t, "what is shared within", g, "4 @0 -0 0.1.2.3>0@0 0.1.2.3>1@0 1.2.3>0@0 1.2.3>1@0 2.3>0@0 2.3>1@0 3>0@0 3>1@0")
}

func TestEventsStay(t *testing.T) {
	e := api.Event{Kind: "a", Fields: []api.Field{{Name: "x", V: api.Value{Kind: api.Whole, N: 1}}}}
	was := fmt.Sprintf("%+v", e)
	g := begun(t, made(t, "a[x=1] ; b"))
	g.Feed(e)
	if now := fmt.Sprintf("%+v", e); now != was {
		t.Errorf("the event %s became %s", was, now)
	}
}
