package nfa

import (
	"math/rand"
	"slices"
	"strings"

	"auspice/api"
	"auspice/tree"
)

// draws is a row of numbers that is the same at each run.
func draws() *rand.Rand { return rand.New(rand.NewSource(1)) }

// way is a way from a place to a place; with an atom (or -1), or past a guard (or -1), or free.
type way struct {
	to, atom, guard int
}

// paths is a pattern as places with ways between. Unlike a machine it has places where no event is picked; what a machine is, is told by all ways through these.
type paths struct {
	nodes []api.Node
	ways  [][]way
	a     api.Machine
	exits []int // of each atom the place behind it
}

func (q *paths) place() int {
	q.ways = append(q.ways, nil)
	return len(q.ways) - 1
}

func (q *paths) free(from, to int) { q.ways[from] = append(q.ways[from], way{to, -1, -1}) }

// lay lays the ways of a node from a place on, and answers the place behind it.
func (q *paths) lay(node, from int) int {
	n := q.nodes[node]
	switch n.Op {
	case api.NodeAtom:
		to := q.place()
		q.ways[from] = append(q.ways[from], way{to, len(q.a.Atoms), -1})
		q.a.Atoms = append(q.a.Atoms, api.Node{Op: api.NodeAtom, Kind: n.Kind, Conds: n.Conds})
		q.exits = append(q.exits, to)
		return to
	case api.NodeNot:
		k := q.nodes[n.Kids[0]]
		to := q.place()
		q.ways[from] = append(q.ways[from], way{to, -1, len(q.a.Nots)})
		q.a.Nots = append(q.a.Nots, api.Node{Op: api.NodeAtom, Kind: k.Kind, Conds: k.Conds})
		return to
	case api.NodeAlt:
		to := q.place()
		for _, k := range n.Kids {
			begin := q.place()
			q.free(from, begin)
			q.free(q.lay(k, begin), to)
		}
		return to
	case api.NodeLoop:
		return q.loop(n, from)
	}
	for _, k := range n.Kids {
		from = q.lay(k, from)
	}
	return from
}

// loop lays the ways of a Loop.
func (q *paths) loop(n api.Node, from int) int {
	end := q.place()
	for i := 0; n.Hi == -1 || i < n.Hi; i++ {
		if i >= n.Lo {
			q.free(from, end)
		}
		begin := q.place()
		q.free(from, begin)
		from = q.lay(n.Kids[0], begin)
		if n.Hi == -1 && i+1 >= n.Lo {
			q.free(from, begin)
			break
		}
	}
	q.free(from, end)
	return end
}

// walk calls found for each way on from a place: with the atom that it comes to, or -1 at the end, and the guards that it goes past.
func (q *paths) walk(from, end int, guards []int, found func(atom int, guards []int)) {
	if from == end {
		found(-1, guards)
	}
	for _, w := range q.ways[from] {
		switch {
		case w.atom >= 0:
			found(w.atom, guards)
		case w.guard >= 0:
			q.walk(w.to, end, append(slices.Clone(guards), w.guard), found)
		default:
			q.walk(w.to, end, guards, found)
		}
	}
}

// asked is what Make ought to answer of a pattern that may be, of which at most some hundreds of atoms are made.
func asked(p api.Pattern) (api.Machine, api.Errno) {
	q := &paths{nodes: p.Nodes, a: api.Machine{Within: p.Within}}
	begin := q.place()
	end := q.lay(len(p.Nodes)-1, begin)
	q.walk(begin, end, nil, func(atom int, guards []int) {
		if !slices.Contains(q.a.Starts, atom) {
			q.a.Starts = append(q.a.Starts, atom)
		}
	})
	slices.Sort(q.a.Starts)
	moves := 0
	for _, exit := range q.exits {
		final := false
		var l []api.Move
		q.walk(exit, end, nil, func(atom int, guards []int) {
			if atom < 0 {
				final = true
				return
			}
			m := api.Move{To: atom, Guards: slices.Clone(guards)}
			slices.Sort(m.Guards)
			m.Guards = slices.Compact(m.Guards)
			place, there := slices.BinarySearchFunc(l, m, byPlace)
			if !there {
				l = slices.Insert(l, place, m)
			}
		})
		moves += len(l)
		q.a.Moves = append(q.a.Moves, l)
		q.a.Final = append(q.a.Final, final)
	}
	if len(q.a.Atoms) > 64 || len(q.a.Nots) > 64 || moves > 512 {
		return api.Machine{}, api.ErrBig
	}
	return q.a, api.OK
}

// byPlace is the order of moves: by the atoms, then number by number by the guards, the shorter ahead.
func byPlace(a, b api.Move) int {
	if a.To != b.To {
		return a.To - b.To
	}
	for i := 0; i < len(a.Guards) && i < len(b.Guards); i++ {
		if a.Guards[i] != b.Guards[i] {
			return a.Guards[i] - b.Guards[i]
		}
	}
	return len(a.Guards) - len(b.Guards)
}

// isMatch tells by the words of chapter 10 whether a row of picked events is a match of a pattern.
func isMatch(p api.Pattern, events []api.Event, picks []int) bool {
	if len(picks) == 0 {
		return false
	}
	d := events[picks[len(picks)-1]].Stamp - events[picks[0]].Stamp
	return slices.Contains(ends(p.Nodes, len(p.Nodes)-1, 0, events, picks), len(picks)) && (p.Within == 0 || d <= p.Within)
}

// ends are the places among the picks where a row that begins at a place may end, so that it fits a node and the guards in it hold.
func ends(nodes []api.Node, node, from int, events []api.Event, picks []int) []int {
	n := nodes[node]
	on := func(kid int, from []int) []int {
		var to []int
		for _, i := range from {
			to = append(to, ends(nodes, kid, i, events, picks)...)
		}
		slices.Sort(to)
		return slices.Compact(to)
	}
	at := []int{from}
	switch n.Op {
	case api.NodeAtom:
		if from == len(picks) || !tree.Atom(n, events[picks[from]]) {
			return nil
		}
		return []int{from + 1}
	case api.NodeNot:
		if from > 0 && from < len(picks) {
			for i := picks[from-1] + 1; i < picks[from]; i++ {
				if tree.Atom(nodes[n.Kids[0]], events[i]) {
					return nil
				}
			}
		}
		return at
	case api.NodeSeq:
		for _, k := range n.Kids {
			at = on(k, at)
		}
		return at
	case api.NodeAlt:
		var to []int
		for _, k := range n.Kids {
			to = append(to, on(k, at)...)
		}
		return to
	}
	var to []int
	for times := 0; len(at) > 0 && (n.Hi == -1 || times <= n.Hi); times++ {
		if times >= n.Lo {
			to = append(to, at...)
		}
		at = on(n.Kids[0], at)
	}
	return to
}

// anyText is a random text of a pattern, of at most that many things within one another, over few kinds of events.
func anyText(r *rand.Rand, deep int) string {
	if deep < 1 || r.Intn(8) == 0 {
		return anyAtom(r) + []string{"", "", "", "", "*", "?"}[r.Intn(6)]
	}
	switch r.Intn(7) {
	case 1, 2:
		s := anyText(r, deep-1)
		times := []string{"*", "?", "+", "+", "{2,}", "{1,2}", "{0,2}", "{2,3}", "{3,}", "{0,3}", "{3,3}", "{4,8}", "{0,5}", "{8,}"}
		return "(" + s + ")" + times[r.Intn(len(times))]
	case 3, 4:
		l := []string{anyText(r, deep-1), anyText(r, deep-1)}
		for r.Intn(3) == 0 {
			l = append(l, anyText(r, deep-1))
		}
		return "(" + strings.Join(l, " | ") + ")"
	}
	l := []string{anyText(r, deep-1)}
	for r.Intn(2) == 0 {
		if r.Intn(2) == 0 {
			l = append(l, "!"+anyAtom(r))
		}
		l = append(l, anyText(r, deep-1))
	}
	return "(" + strings.Join(append(l, anyText(r, deep-1)), " ; ") + ")"
}

func anyAtom(r *rand.Rand) string {
	return []string{"a", "b", "c", "any", "a[x=1]", "any[x>1]"}[r.Intn(6)]
}

// wideText is a random text of a pattern of many small things in a Loop: many of them have very many moves.
func wideText(r *rand.Rand) string {
	var l []string
	for range 3 + r.Intn(12) {
		s := anyAtom(r) + []string{"", "*", "?"}[r.Intn(3)]
		switch r.Intn(4) {
		case 0:
			s = anyText(r, 2)
		case 1:
			s = "(a? | b? ; !" + anyAtom(r) + " ; a?)"
		}
		l = append(l, s)
	}
	return "(" + strings.Join(append(l, "a"), " ; ") + ")" + []string{"+", "{1,2}", "{2,}", "{3,3}"}[r.Intn(4)]
}
