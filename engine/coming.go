package engine

import (
	"slices"

	"auspice/api"
	"auspice/tree"
)

// coming is an event that comes to a machine: its number, its stamp, and which of the machine's atoms and of its guards' atoms it fits (bit i: the one of the number i).
type coming struct {
	machine api.Machine
	number  int
	stamp   int
	atoms   uint64
	nots    uint64
}

// coming is an event that comes to an engine now.
func (g *Engine) coming(e api.Event) *coming {
	return &coming{machine: g.machine, number: g.count, stamp: e.Stamp, atoms: fitted(g.machine.Atoms, e), nots: fitted(g.machine.Nots, e)}
}

// inTime tells whether the event comes soon enough for a run. Neither stamp is below 0.
func (c *coming) inTime(r api.Run) bool {
	return c.machine.Within == 0 || c.stamp-r.Stamp <= c.machine.Within
}

// goOn lets runs go on: those that stay as none of their moves leads on, and those that went on now.
func (c *coming) goOn(runs []api.Run) (stay, now []api.Run) {
	for _, r := range runs {
		to := c.to(r)
		if to == 0 {
			r.Seen |= c.nots
			stay = append(stay, r)
			continue
		}
		// What is cut to its length is copied as it grows, so that the run's own picks stay.
		r.Picks = append(r.Picks[:len(r.Picks):len(r.Picks)], c.number)
		r.Seen = 0
		now = append(now, each(r, to)...)
	}
	return stay, now
}

// to are the states to which a run goes on.
func (c *coming) to(r api.Run) uint64 {
	var to uint64
	for _, m := range c.machine.Moves[r.State] {
		state := bit(m.To)
		if c.atoms&state != 0 && r.Seen&set(m.Guards) == 0 {
			to |= state
		}
	}
	return to
}

// begin are the runs that begin with the event.
func (c *coming) begin() []api.Run {
	r := api.Run{Begin: c.number, Stamp: c.stamp, Picks: []int{c.number}}
	return each(r, set(c.machine.Starts)&c.atoms)
}

// each is a run in each of some states.
func each(r api.Run, states uint64) []api.Run {
	var l []api.Run
	for i := range api.MaxAtoms {
		if states&bit(i) != 0 {
			r.State = i
			l = append(l, r)
		}
	}
	return l
}

// matches are what runs have picked, in their order, none twice.
func matches(runs []api.Run) []api.Match {
	var l []api.Match
	for i, r := range runs {
		if i == 0 || !slices.Equal(r.Picks, runs[i-1].Picks) {
			l = append(l, api.Match{Picks: slices.Clone(r.Picks)})
		}
	}
	return l
}

// fitted are those of some atoms that an event fits.
func fitted(atoms []api.Node, e api.Event) uint64 {
	var s uint64
	for i, n := range atoms {
		if tree.Atom(n, e) {
			s |= bit(i)
		}
	}
	return s
}

// set is a set of numbers.
func set(numbers []int) uint64 {
	var s uint64
	for _, i := range numbers {
		s |= bit(i)
	}
	return s
}

// bit is the set of a number alone.
func bit(i int) uint64 {
	return 1 << i
}
