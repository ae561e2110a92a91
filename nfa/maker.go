package nfa

import (
	"slices"
	"strings"

	"auspice/api"
)

const endless = -1 // the Hi of a loop that goes on however often

// maker makes the things of a pattern that may be, and numbers the atoms and guards of the unrolled pattern as they stand.
type maker struct {
	nodes []api.Node
	atoms []api.Node
	nots  []api.Node
}

// thing is the thing that a node stands for.
func (m *maker) thing(number int) thing {
	n := m.nodes[number]
	switch n.Op {
	case api.NodeAtom:
		m.atoms = append(m.atoms, copied(n))
		return ofAtom(len(m.atoms) - 1)
	case api.NodeNot:
		m.nots = append(m.nots, copied(m.nodes[n.Kids[0]]))
		return ofGuard(len(m.nots) - 1)
	case api.NodeLoop:
		return m.loop(n)
	case api.NodeAlt:
		return m.all(n.Kids, either)
	}
	return m.all(n.Kids, row)
}

// all is what is made of the things of some nodes, one by one.
func (m *maker) all(numbers []int, of func(a, b thing) thing) thing {
	t := m.thing(numbers[0])
	for _, k := range numbers[1:] {
		t = of(t, m.thing(k))
	}
	return t
}

// loop is the thing of a Loop: its copies are made as they stand, and put together from the last one on, as each that may be has those behind it within.
func (m *maker) loop(n api.Node) thing {
	var l []thing
	for range copies(n) {
		l = append(l, m.thing(n.Kids[0]))
	}
	last := len(l) - 1
	t := l[last]
	if n.Hi == endless {
		t = plus(t)
	}
	for i := last; ; i-- {
		if i >= n.Lo {
			t = mayBe(t)
		}
		if i == 0 {
			return t
		}
		t = row(l[i-1], t)
	}
}

// copies is how many copies of its kid a Loop stands for.
func copies(n api.Node) int {
	return max(1, n.Lo, n.Hi)
}

// small tells whether the unrolled pattern has no more atoms and guards than it may. It is asked ahead of unrolling, as there could be very many.
func small(nodes []api.Node) bool {
	atoms, guards := make([]int, len(nodes)), make([]int, len(nodes))
	for i, n := range nodes {
		for _, k := range n.Kids {
			atoms[i] += atoms[k]
			guards[i] += guards[k]
		}
		switch n.Op {
		case api.NodeAtom:
			atoms[i] = 1
		case api.NodeNot:
			atoms[i], guards[i] = 0, 1
		case api.NodeLoop:
			atoms[i] *= copies(n)
			guards[i] *= copies(n)
		}
		if atoms[i] > api.MaxAtoms || guards[i] > api.MaxAtoms {
			return false
		}
	}
	return true
}

// machine is the machine of a whole.
func (m *maker) machine(whole thing, within int) api.Machine {
	n := len(m.atoms)
	a := api.Machine{Atoms: m.atoms, Nots: m.nots, Moves: make([][]api.Move, n), Final: make([]bool, n), Within: within}
	for _, s := range whole.first {
		a.Starts = merged(a.Starts, []int{s.to})
	}
	for _, s := range once(whole.next) {
		a.Moves[s.from] = append(a.Moves[s.from], api.Move{To: s.to, Guards: slices.Clone(s.guards)})
	}
	for _, s := range whole.last {
		a.Final[s.from] = true
	}
	return a
}

// copied is a copy of an atom that shares nothing with it.
func copied(n api.Node) api.Node {
	c := api.Node{Op: n.Op, Kind: strings.Clone(n.Kind)}
	for _, d := range n.Conds {
		d.Name, d.V.S = strings.Clone(d.Name), strings.Clone(d.V.S)
		c.Conds = append(c.Conds, d)
	}
	return c
}
