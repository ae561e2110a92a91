package nfa

import (
	"slices"

	"auspice/api"
	"auspice/tree"
)

// walker goes through a machine, an event that is picked behind the other.
type walker struct {
	machine api.Machine
	stands  []bool // of each atom whether the last event may have been picked for it
}

// begin picks the first event.
func (w *walker) begin(e api.Event) {
	w.stands = make([]bool, len(w.machine.Atoms))
	for _, s := range w.machine.Starts {
		w.stands[s] = tree.Atom(w.machine.Atoms[s], e)
	}
}

// step picks the next event, behind some that are not picked.
func (w *walker) step(between []api.Event, e api.Event) {
	seen := w.seen(between)
	held := func(m api.Move) bool {
		return !slices.ContainsFunc(m.Guards, func(g int) bool { return seen[g] })
	}
	next := make([]bool, len(w.stands))
	for i, stands := range w.stands {
		if !stands {
			continue
		}
		for _, m := range w.machine.Moves[i] {
			next[m.To] = next[m.To] || held(m) && tree.Atom(w.machine.Atoms[m.To], e)
		}
	}
	w.stands = next
}

// seen tells of each guard's atom whether one of some events fits it.
func (w *walker) seen(events []api.Event) []bool {
	l := make([]bool, len(w.machine.Nots))
	for g, n := range w.machine.Nots {
		l[g] = slices.ContainsFunc(events, func(e api.Event) bool { return tree.Atom(n, e) })
	}
	return l
}

// final tells whether it may end where it stands.
func (w *walker) final() bool {
	for i, stands := range w.stands {
		if stands && w.machine.Final[i] {
			return true
		}
	}
	return false
}

// sound tells whether a machine's lists are as long as they must be, and all its numbers name something.
func sound(m api.Machine) bool {
	n := len(m.Atoms)
	if len(m.Moves) != n || len(m.Final) != n || !name(n, m.Starts...) {
		return false
	}
	for _, l := range m.Moves {
		for _, v := range l {
			if !name(n, v.To) || !name(len(m.Nots), v.Guards...) {
				return false
			}
		}
	}
	return true
}

// name tells whether each of these numbers names one of n things.
func name(n int, l ...int) bool {
	return !slices.ContainsFunc(l, func(i int) bool { return i < 0 || i >= n })
}

// rise tells whether there are picks, they rise, and all are places of n events.
func rise(picks []int, n int) bool {
	for i := 1; i < len(picks); i++ {
		if picks[i-1] >= picks[i] {
			return false
		}
	}
	return len(picks) > 0 && name(n, picks...)
}

// above tells whether a less b is above n, also where a number could not be as great or as small as the difference.
func above(a, b, n int) bool {
	if (a < 0) != (b < 0) && (a-b < 0) != (a < 0) {
		return a > b
	}
	return a-b > n
}
