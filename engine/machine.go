package engine

import (
	"slices"
	"strings"

	"auspice/api"
)

// machineMay tells whether a machine may be an engine's.
func machineMay(m api.Machine) bool {
	n := len(m.Atoms)
	if n < 1 || n > api.MaxAtoms || len(m.Nots) > api.MaxAtoms || m.Within < 0 {
		return false
	}
	if len(m.Moves) != n || len(m.Final) != n || !name(n, m.Starts...) {
		return false
	}
	for _, l := range m.Moves {
		if slices.ContainsFunc(l, func(v api.Move) bool { return !name(n, v.To) || !name(len(m.Nots), v.Guards...) }) {
			return false
		}
	}
	return true
}

// name tells whether each of these numbers names one of n things.
func name(n int, l ...int) bool {
	return !slices.ContainsFunc(l, func(i int) bool { return i < 0 || i >= n })
}

// copied is a copy of a machine that shares nothing with it.
func copied(m api.Machine) api.Machine {
	m.Atoms, m.Nots = copiedNodes(m.Atoms), copiedNodes(m.Nots)
	m.Starts, m.Final = slices.Clone(m.Starts), slices.Clone(m.Final)
	var moves [][]api.Move
	for _, l := range m.Moves {
		moves = append(moves, copiedMoves(l))
	}
	m.Moves = moves
	return m
}

// copiedMoves are copies of moves that share nothing with them.
func copiedMoves(moves []api.Move) []api.Move {
	var l []api.Move
	for _, v := range moves {
		l = append(l, api.Move{To: v.To, Guards: slices.Clone(v.Guards)})
	}
	return l
}

// copiedNodes are copies of nodes that share nothing with them.
func copiedNodes(nodes []api.Node) []api.Node {
	var l []api.Node
	for _, n := range nodes {
		n.Kind, n.Kids = strings.Clone(n.Kind), slices.Clone(n.Kids)
		n.Conds = slices.Clone(n.Conds)
		for i, c := range n.Conds {
			n.Conds[i].Name, n.Conds[i].V.S = strings.Clone(c.Name), strings.Clone(c.V.S)
		}
		l = append(l, n)
	}
	return l
}
