package nfa

import (
	"cmp"
	"slices"
)

// nowhere is no atom: what a step comes from that leads into a thing or by it, and what one leads to that leads out of it or by it.
const nowhere = -1

// step leads from an atom to an atom, past guards: their numbers rise, none twice. Steps may share them, as nobody changes them.
type step struct {
	from, to int
	guards   []int
}

// thing tells the steps of a thing of the unrolled pattern, each of them once.
type thing struct {
	pass  []step
	first []step
	last  []step
	next  []step
}

// ofAtom is the thing that an atom is.
func ofAtom(number int) thing {
	return thing{first: []step{{from: nowhere, to: number}}, last: []step{{from: number, to: nowhere}}}
}

// ofGuard is the thing that a guard is.
func ofGuard(number int) thing {
	return thing{pass: []step{{from: nowhere, to: nowhere, guards: []int{number}}}}
}

// row is a row of two things. That of a row and a thing is the row of them all: what stands between two of them has become a part of the Last of those ahead.
func row(a, b thing) thing {
	return thing{
		pass:  joined(a.pass, b.pass),
		first: slices.Concat(a.first, joined(a.pass, b.first)),
		last:  slices.Concat(b.last, joined(a.last, b.pass)),
		next:  slices.Concat(a.next, b.next, joined(a.last, b.first)),
	}
}

// either is an Alt of two things. They have no atom in common, so that only the ways by them can be alike.
func either(a, b thing) thing {
	return thing{
		pass:  once(slices.Concat(a.pass, b.pass)),
		first: slices.Concat(a.first, b.first),
		last:  slices.Concat(a.last, b.last),
		next:  slices.Concat(a.next, b.next),
	}
}

// plus is a plus of a thing.
func plus(x thing) thing {
	x.next = once(slices.Concat(x.next, joined(x.last, x.first)))
	return x
}

// mayBe is a may-be of a thing; that of a plus is a star.
func mayBe(x thing) thing {
	x.pass = once(slices.Concat(x.pass, []step{{from: nowhere, to: nowhere}}))
	return x
}

// joined are the steps that a step of one list and a step of another one make together.
func joined(a, b []step) []step {
	var l []step
	for _, s := range a {
		for _, t := range b {
			l = append(l, step{from: s.from, to: t.to, guards: merged(s.guards, t.guards)})
		}
	}
	return l
}

// merged are two rising lists put together, what is in both of them once.
func merged[T cmp.Ordered](a, b []T) []T {
	l := make([]T, 0, len(a)+len(b))
	for len(a) > 0 && len(b) > 0 {
		least := min(a[0], b[0])
		if a[0] == least {
			a = a[1:]
		}
		if b[0] == least {
			b = b[1:]
		}
		l = append(l, least)
	}
	return append(append(l, a...), b...)
}

// once sorts steps by their atoms, then by their guards, and lets those go that are there already.
func once(l []step) []step {
	order := func(s, t step) int {
		return cmp.Or(cmp.Compare(s.from, t.from), cmp.Compare(s.to, t.to), slices.Compare(s.guards, t.guards))
	}
	slices.SortFunc(l, order)
	return slices.CompactFunc(l, func(s, t step) bool { return order(s, t) == 0 })
}
