package engine

import (
	"cmp"
	"slices"

	"auspice/api"
)

// those are the ones of some runs of which something is so.
func those(runs []api.Run, so func(r api.Run) bool) []api.Run {
	var l []api.Run
	for _, r := range runs {
		if so(r) {
			l = append(l, r)
		}
	}
	return l
}

// once sorts runs, and lets those go that are there already.
func once(runs []api.Run) []api.Run {
	slices.SortFunc(runs, order)
	return slices.CompactFunc(runs, func(a, b api.Run) bool { return order(a, b) == 0 })
}

// order is how two runs stand. Their stamps say no more: of one Begin there is one stamp.
func order(a, b api.Run) int {
	return cmp.Or(cmp.Compare(a.Begin, b.Begin), slices.Compare(a.Picks, b.Picks), cmp.Compare(a.State, b.State), cmp.Compare(a.Seen, b.Seen))
}

// copiedRuns are copies of runs that share nothing with them.
func copiedRuns(runs []api.Run) []api.Run {
	var l []api.Run
	for _, r := range runs {
		r.Picks = slices.Clone(r.Picks)
		l = append(l, r)
	}
	return l
}

// trackMay tells whether an engine of a machine may know a track.
func trackMay(m api.Machine, t api.Track) bool {
	if !index(t.Count) || t.Stamp < 0 || !index(t.Lost) || len(t.Runs) > api.MaxRuns {
		return false
	}
	for i, r := range t.Runs {
		if !runMay(m, t, r) || i > 0 && !follows(t.Runs[i-1], r) {
			return false
		}
	}
	return true
}

// runMay tells whether a run may be one of a track.
func runMay(m api.Machine, t api.Track, r api.Run) bool {
	if !name(len(m.Atoms), r.State) || len(m.Moves[r.State]) == 0 || r.Seen>>len(m.Nots) != 0 {
		return false
	}
	return r.Stamp >= 0 && r.Stamp <= t.Stamp && picksMay(r, t.Count)
}

// picksMay tells whether a run's picks may be some of so many events.
func picksMay(r api.Run, count int) bool {
	n := len(r.Picks)
	if n < 1 || n >= api.MaxPicks || r.Picks[0] != r.Begin || !name(count, r.Picks...) {
		return false
	}
	for i := 1; i < n; i++ {
		if r.Picks[i-1] >= r.Picks[i] {
			return false
		}
	}
	return true
}

// follows tells whether a run may stand behind another one.
func follows(a, b api.Run) bool {
	return order(a, b) < 0 && (a.Begin != b.Begin || a.Stamp == b.Stamp)
}

// index tells whether a number may be a count.
func index(n int) bool {
	return n >= 0 && n <= api.MaxIndex
}
