package raft

import (
	"math"
	"strings"

	"auspice/api"
)

const masks = 1 << api.MaxNodes // how many there are

// behind is the index of a core's n-th entry. One that may not be has at most the greatest number there is.
func behind(c api.Core, n int) int {
	if c.Base.Index > math.MaxInt-n {
		return math.MaxInt
	}
	return c.Base.Index + n
}

// entry is the entry of an index as it stands in a core, and whether there is one.
func entry(c api.Core, i int) (api.Entry, bool) {
	// As numbers without a sign, two that are far from one another are told apart, too.
	n := uint64(i) - uint64(c.Base.Index)
	if i <= c.Base.Index || n > uint64(len(c.Log)) {
		return api.Entry{}, false
	}
	return c.Log[n-1], true
}

// coreMay tells whether a core may be.
func coreMay(c api.Core) bool {
	if !isNode(c.Me) || !number(c.Term) || !somebody(c.Vote) || !somebody(c.Lead) || !snapMay(c.Base) {
		return false
	}
	if !logMay(c) || c.Commit < c.Base.Index || c.Commit > behind(c, len(c.Log)) {
		return false
	}
	if c.Role != api.Follows && c.Role != api.Stands && c.Role != api.Leads {
		return false
	}
	if !number(c.Clock) || !number(c.Limit) || c.Limit < 1 || !isMask(c.Votes) || !isMask(c.Heard) {
		return false
	}
	last := behind(c, len(c.Log))
	return among(c.Next, 1, last+1) && among(c.Match, 0, last)
}

// logMay tells whether a core's log may be, behind its Base and up to its Term.
func logMay(c api.Core) bool {
	for _, e := range c.Log {
		if !entryMay(e) {
			return false
		}
	}
	return number(behind(c, len(c.Log))) && termsMay(c.Base.Term, c.Log, c.Term)
}

// termsMay tells whether the terms of some entries do not fall, from one term to another one.
func termsMay(from int, log []api.Entry, to int) bool {
	for _, e := range log {
		if e.Term < from {
			return false
		}
		from = e.Term
	}
	return from <= to
}

// entryMay tells whether an entry may be.
func entryMay(e api.Entry) bool {
	if !number(e.Term) {
		return false
	}
	switch e.Kind {
	case api.EntryText:
		return e.Mask == 0 && len(e.Text) <= api.MaxCmd
	case api.EntryNoop:
		return e.Mask == 0 && e.Text == ""
	case api.EntryMask:
		return isMembers(e.Mask) && e.Text == ""
	}
	return false
}

// snapMay tells whether a snapshot may be.
func snapMay(s api.Snap) bool {
	return number(s.Index) && number(s.Term) && isMask(s.Mask) && len(s.Text) <= api.MaxSnap
}

// number tells whether a number may be an index, a term, or ticks.
func number(n int) bool {
	return n >= 0 && n <= api.MaxIndex
}

// isMask tells whether a number is a mask.
func isMask(m int) bool {
	return m >= 0 && m < masks
}

// isMembers tells whether a number is a mask that has a node.
func isMembers(m int) bool {
	return isMask(m) && m != 0
}

// isNode tells whether a number is a node's.
func isNode(i int) bool {
	return i >= 0 && i < api.MaxNodes
}

// somebody tells whether a number is a node's, or nobody's.
func somebody(i int) bool {
	return i == nobody || isNode(i)
}

// among tells whether each of the nodes' numbers is from one to another one.
func among(numbers [api.MaxNodes]int, least, most int) bool {
	for _, n := range numbers {
		if n < least || n > most {
			return false
		}
	}
	return true
}

// atMost are the nodes' numbers, each that is above one become that.
func atMost(most int, numbers [api.MaxNodes]int) [api.MaxNodes]int {
	for i := range numbers {
		numbers[i] = min(numbers[i], most)
	}
	return numbers
}

// copied is a copy of a core that shares nothing with it.
func copied(c api.Core) api.Core {
	c.Base = copiedSnap(c.Base)
	c.Log = copiedEntries(c.Log)
	return c
}

// copiedSnap is a copy of a snapshot that shares nothing with it.
func copiedSnap(s api.Snap) api.Snap {
	s.Text = strings.Clone(s.Text)
	return s
}

// copiedEntries are copies of entries that share nothing with them.
func copiedEntries(log []api.Entry) []api.Entry {
	var l []api.Entry
	for _, e := range log {
		l = append(l, copiedEntry(e))
	}
	return l
}

// copiedEntry is a copy of an entry that shares nothing with it.
func copiedEntry(e api.Entry) api.Entry {
	e.Text = strings.Clone(e.Text)
	return e
}
