package engine_test

import (
	"encoding/binary"
	"fmt"
	"maps"
	"math/rand"
	"slices"
	"strings"
	"testing"

	"auspice/api"
	"auspice/engine"
	"auspice/nfa"
	"auspice/parse"
	"auspice/tree"
)

// plain is an engine by the words of the chapter, which lays out every run.
type plain struct {
	m api.Machine
	k api.Track
}

// feed lets an event come that may come.
func (p *plain) feed(e api.Event) (matches [][]int) {
	n := p.k.Count
	p.k.Count, p.k.Stamp = n+1, e.Stamp
	var stay, now []api.Run
	for _, r := range p.k.Runs {
		if p.m.Within != 0 && e.Stamp-r.Stamp > p.m.Within {
			continue
		}
		went := false
		for _, v := range p.m.Moves[r.State] {
			free := tree.Atom(p.m.Atoms[v.To], e)
			for _, g := range v.Guards {
				free = free && r.Seen>>g&1 == 0
			}
			if free {
				went = true
				now = append(now, api.Run{Begin: r.Begin, Stamp: r.Stamp, State: v.To, Picks: append(slices.Clone(r.Picks), n)})
			}
		}
		if !went {
			for g, a := range p.m.Nots {
				if tree.Atom(a, e) {
					r.Seen |= 1 << g
				}
			}
			stay = append(stay, r)
		}
	}
	for _, s := range p.m.Starts {
		if tree.Atom(p.m.Atoms[s], e) {
			now = append(now, api.Run{Begin: n, Stamp: e.Stamp, State: s, Picks: []int{n}})
		}
	}
	for _, r := range byOrder(now) {
		if p.m.Final[r.State] && !slices.ContainsFunc(matches, func(l []int) bool { return slices.Equal(l, r.Picks) }) {
			matches = append(matches, r.Picks)
		}
	}
	p.stay(byOrder(append(stay, now...)))
	return matches
}

// stay lets those of some runs stay that may.
func (p *plain) stay(l []api.Run) {
	p.k.Runs = nil
	for _, r := range l {
		switch {
		case len(p.m.Moves[r.State]) == 0:
		case len(r.Picks) >= 16 || len(p.k.Runs) >= 64:
			p.k.Lost++
		default:
			p.k.Runs = append(p.k.Runs, r)
		}
	}
}

// byOrder are runs in their order, each of them once.
func byOrder(l []api.Run) (out []api.Run) {
	by := map[string]api.Run{}
	for _, r := range l {
		by[key(r)] = r
	}
	for _, k := range slices.Sorted(maps.Keys(by)) {
		out = append(out, by[k])
	}
	return out
}

// key is a text that stands as a run does: a 0 behind the picks stands below all that goes on.
func key(r api.Run) string {
	var b []byte
	number := func(n int) { b = append(b, byte(n>>16), byte(n>>8), byte(n)) }
	number(r.Begin)
	for _, p := range r.Picks {
		number(1 + p)
	}
	number(0)
	number(r.State)
	return string(binary.BigEndian.AppendUint64(b, r.Seen))
}

// draws is a row of numbers that is the same at each run.
func draws() *rand.Rand { return rand.New(rand.NewSource(1)) }

// anyAtom is an atom that some events of anyEvent fit.
func anyAtom(r *rand.Rand) string {
	return []string{"a", "a", "b", "b", "c", "any", "a[x=1]", "any[x>1]"}[r.Intn(8)]
}

// anyText is a random text of a pattern of few kinds of events.
func anyText(r *rand.Rand, deep int) string {
	if deep < 1 || r.Intn(8) == 0 {
		return anyAtom(r) + []string{"", "", "", "+", "*", "?"}[r.Intn(6)]
	}
	l := []string{anyText(r, deep-1)}
	between := " | "
	if r.Intn(3) > 0 {
		between = " ; "
	}
	for range 1 + r.Intn(3) {
		if between == " ; " && r.Intn(2) == 0 {
			l = append(l, "!"+anyAtom(r))
		}
		l = append(l, anyText(r, deep-1))
	}
	return "(" + strings.Join(l, between) + ")" + []string{"", "", "+", "*", "?", "{2,}", "{1,3}"}[r.Intn(7)]
}

// anyMachine is a random machine: that of a pattern, or one that no pattern has.
func anyMachine(r *rand.Rand) api.Machine {
	if r.Intn(4) == 0 {
		return anyMoves(r)
	}
	for {
		s := anyText(r, 1+r.Intn(3))
		if r.Intn(2) == 0 {
			s += fmt.Sprintf(" within %d", 1+r.Intn(30))
		}
		p, _, e := parse.Pattern(s)
		if e != api.OK {
			continue
		}
		if m, e := nfa.Make(p); e == api.OK {
			return m
		}
	}
}

// anyMoves is a random machine of few atoms and many moves, in any order, alike ones among them.
func anyMoves(r *rand.Rand) api.Machine {
	n, guards := 1+r.Intn(5), r.Intn(4)
	m := api.Machine{Within: max(0, r.Intn(40)-20)}
	for range n {
		m.Atoms = append(m.Atoms, atoms(1, []string{"a", "b", "c", ""}[r.Intn(4)])...)
		m.Final = append(m.Final, r.Intn(2) == 0)
		var l []api.Move
		for range r.Intn(5) {
			l = append(l, api.Move{To: r.Intn(n), Guards: numbers(r, guards)})
		}
		m.Moves = append(m.Moves, l)
	}
	for range guards {
		m.Nots = append(m.Nots, atoms(1, []string{"a", "b", "c", ""}[r.Intn(4)])...)
	}
	m.Starts = append(numbers(r, n), r.Intn(n))
	return m
}

// numbers are some numbers below n, in any order.
func numbers(r *rand.Rand, n int) (l []int) {
	for n > 0 && r.Intn(2) == 0 {
		l = append(l, r.Intn(n))
	}
	return l
}

// anyEvents are so many events, whose stamps do not fall.
func anyEvents(r *rand.Rand, n int) (l []api.Event) {
	stamp := 0
	for range n {
		e := api.Event{Stamp: stamp, Kind: []string{"a", "b", "c"}[r.Intn(3)]}
		if r.Intn(3) > 0 {
			e.Fields = []api.Field{{Name: "x", V: api.Value{Kind: api.Whole, N: r.Intn(3)}}}
		}
		l = append(l, e)
		stamp += r.Intn(4)
	}
	return l
}

// 13.1 and 13.3

func TestAnyEvents(t *testing.T) {
	r := draws()
	found, lost, full := 0, 0, 0
	for range 800 {
		m, events := anyMachine(r), anyEvents(r, 40)
		p, g := &plain{m: m}, begun(t, m)
		for i, v := range events {
			want := p.feed(v)
			l, e := g.Feed(v)
			if e != api.OK || len(l) != len(want) {
				t.Fatalf("%+v, the event %d: %v, %v, want %v", m, i, e, l, want)
			}
			for j, x := range l {
				if !slices.Equal(x.Picks, want[j]) || !slices.IsSorted(x.Picks) || x.Picks[len(x.Picks)-1] != i || !nfa.Takes(m, events[:i+1], x.Picks) {
					t.Fatalf("%+v, the event %d: the match %d is %v, want %v", m, i, j, x.Picks, want[j])
				}
			}
			if got := g.Track(); shown(got) != shown(p.k) {
				t.Fatalf("%+v, behind the event %d: it knows %s, want %s", m, i, shown(got), shown(p.k))
			}
			found += len(l)
		}
		if p.k.Lost > 0 {
			lost++
		}
		if len(p.k.Runs) == 64 {
			full++
		}
	}
	if found < 10000 || lost < 100 || full < 20 {
		t.Errorf("there were only %d matches; %d machines lost runs, %d were full", found, lost, full)
	}
}

func TestAnyEnginesResumed(t *testing.T) {
	r := draws()
	found := 0
	for range 200 {
		m, events := anyMachine(r), anyEvents(r, 30)
		g := begun(t, m)
		behind := begun(t, m) // is resumed behind each event
		for i, v := range events {
			behind = resumed(t, behind.Machine(), behind.Track())
			l, e := g.Feed(v)
			got, f := behind.Feed(v)
			if answer(got, f) != answer(l, e) || shown(behind.Track()) != shown(g.Track()) {
				t.Fatalf("%+v, resumed ahead of the event %d: %s, %s, want %s, %s", m, i, answer(got, f), shown(behind.Track()), answer(l, e), shown(g.Track()))
			}
			found += len(l)
		}
		once, more := resumed(t, m, g.Track()), anyEvents(r, 30)
		for _, v := range more {
			v.Stamp += 200
			l, e := g.Feed(v)
			got, f := once.Feed(v)
			if answer(got, f) != answer(l, e) || shown(once.Track()) != shown(g.Track()) {
				t.Fatalf("%+v, resumed once: %s, %s, want %s, %s", m, answer(got, f), shown(once.Track()), answer(l, e), shown(g.Track()))
			}
			found += len(l)
		}
	}
	if found < 3000 {
		t.Errorf("there were only %d matches", found)
	}
}

// Tracks as no engine came by them are gone on with as the words say.
func TestAnyTracksResumed(t *testing.T) {
	r := draws()
	resumes, found := 0, 0
	for range 1500 {
		m := anyMoves(r)
		k := api.Track{Count: 40, Stamp: 20, Lost: r.Intn(3)}
		for range r.Intn(30) {
			begin := r.Intn(30)
			x := api.Run{Begin: begin, Stamp: begin / 2, State: r.Intn(len(m.Atoms)), Seen: uint64(r.Intn(1 << len(m.Nots)))}
			for p := begin; p < 40 && len(x.Picks) < 15 && (p == begin || r.Intn(2) == 0); p += 1 + r.Intn(2) {
				x.Picks = append(x.Picks, p)
			}
			if len(m.Moves[x.State]) > 0 {
				k.Runs = append(k.Runs, x)
			}
		}
		k.Runs = byOrder(k.Runs)
		p, g := &plain{m: m, k: k}, resumed(t, m, k)
		resumes++
		for i, v := range anyEvents(r, 10) {
			v.Stamp += 20
			want := p.feed(v)
			l, e := g.Feed(v)
			if fmt.Sprint(rows(l)) != fmt.Sprint(want) || e != api.OK || shown(g.Track()) != shown(p.k) {
				t.Fatalf("%+v, the event %d: %s, %s, want %v, %s", m, i, answer(l, e), shown(g.Track()), want, shown(p.k))
			}
			found += len(l)
		}
	}
	if resumes < 1000 || found < 10000 {
		t.Errorf("only %d tracks were resumed, with %d matches", resumes, found)
	}
}

// rows are the picks of matches.
func rows(l []api.Match) (out [][]int) {
	for _, m := range l {
		out = append(out, m.Picks)
	}
	return out
}

// R1: nothing panics.

func TestAnyMachinesAndTracks(t *testing.T) {
	r := draws()
	number := func() int {
		if r.Intn(8) > 0 {
			return r.Intn(2)
		}
		return []int{2, 3, 63, 64, -1, 1 << 62, -1 << 63, 1<<63 - 1, api.MaxIndex, api.MaxIndex + 1}[r.Intn(10)]
	}
	list := func() (l []int) {
		for range r.Intn(4) {
			l = append(l, number())
		}
		return l
	}
	may := 0
	for range 50000 {
		m := api.Machine{Atoms: atoms(1+r.Intn(2), "a"), Nots: atoms(2, "b"), Starts: list(), Final: make([]bool, 1+r.Intn(2)), Within: number()}
		for range 1 + r.Intn(2) {
			var l []api.Move
			for range r.Intn(3) {
				l = append(l, api.Move{To: number(), Guards: list()})
			}
			m.Moves = append(m.Moves, l)
		}
		k := api.Track{Count: number(), Stamp: number(), Lost: number()}
		for range r.Intn(3) {
			k.Runs = append(k.Runs, api.Run{Begin: number(), Stamp: number(), State: number(), Seen: uint64(number()), Picks: list()})
		}
		g, e := engine.New(m)
		h, f := engine.Resume(m, k)
		if (g == nil) != (e != api.OK) || (h == nil) != (f != api.OK) || e != api.OK && f != e {
			t.Fatalf("New and Resume of %+v, %+v: %v, %v", m, k, e, f)
		}
		if h != nil {
			may++
		}
		for _, x := range []*engine.Engine{g, h} {
			for range 3 {
				x.Feed(api.Event{Stamp: number(), Kind: []string{"", "a", "b"}[r.Intn(3)]})
			}
			x.Track()
			x.Machine()
		}
	}
	if may < 100 {
		t.Errorf("only %d of them might be", may)
	}
}
