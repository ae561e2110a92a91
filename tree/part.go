package tree

import (
	"math"
	"slices"
	"strings"

	"auspice/api"
	"auspice/event"
)

const (
	endless = -1                 // the Hi of a loop that goes on however often
	great   = 1e18               // the least number of more digits than a condition's may have
	nan     = 0x7ff8000000000001 // the bits of the one NaN that a condition may have
)

// part is a node with the parts that are its kids.
type part struct {
	node api.Node
	kids []*part
}

// grow is the whole of a pattern, if it may be.
func grow(p api.Pattern) (*part, api.Errno) {
	if len(p.Nodes) > api.MaxParts {
		return nil, api.ErrLong
	}
	if p.Within < 0 || p.Within > api.MaxIndex {
		return nil, api.ErrTree
	}
	var parts []*part // of each node so far; nil, if it is a kid by now
	for _, n := range p.Nodes {
		kids, had := take(parts, n.Kids)
		q := &part{node: n, kids: kids}
		if !had || !rule(n.Op)(q) {
			return nil, api.ErrTree
		}
		parts = append(parts, q)
	}
	parts = slices.DeleteFunc(parts, func(q *part) bool { return q == nil })
	if len(parts) != 1 || !parts[0].wholeMay() {
		return nil, api.ErrTree
	}
	return parts[0], api.OK
}

// take takes the parts of these numbers, if all are there and none is a kid yet.
func take(parts []*part, numbers []int) (kids []*part, had bool) {
	for _, k := range numbers {
		if k < 0 || k >= len(parts) || parts[k] == nil {
			return nil, false
		}
		kids = append(kids, parts[k])
		parts[k] = nil
	}
	return kids, true
}

// rule is what is asked of a part whose node has that op. Its kids may be, when it is asked.
func rule(op int) func(q *part) bool {
	switch op {
	case api.NodeAtom:
		return (*part).atomMay
	case api.NodeSeq:
		return (*part).seqMay
	case api.NodeAlt:
		return (*part).altMay
	case api.NodeLoop:
		return (*part).loopMay
	case api.NodeNot:
		return (*part).guardMay
	}
	return (*part).noneMay
}

// wholeMay tells whether a part may be the whole.
func (q *part) wholeMay() bool {
	return !q.guard() && !q.empty() && q.deep() <= api.MaxDeep
}

// atomMay tells whether an atom may be.
func (q *part) atomMay() bool {
	n := q.node
	if n.Kind != "" && !event.Word(n.Kind) || n.Kind == anyKind || n.Kind == within || len(n.Conds) > api.MaxConds {
		return false
	}
	for _, c := range n.Conds {
		if !condMay(c) {
			return false
		}
	}
	return q.timeless() && len(q.kids) == 0
}

// seqMay tells whether a Seq may be.
func (q *part) seqMay() bool {
	return q.bare() && q.timeless() && len(q.kids) >= 2 && !q.kids[0].guard() && !q.kids[len(q.kids)-1].guard()
}

// altMay tells whether an Alt may be.
func (q *part) altMay() bool {
	return q.bare() && q.timeless() && len(q.kids) >= 2 && !slices.ContainsFunc(q.kids, (*part).guard)
}

// loopMay tells whether a Loop may be.
func (q *part) loopMay() bool {
	if !q.bare() || len(q.kids) != 1 || q.kids[0].guard() || q.kids[0].empty() {
		return false
	}
	lo, hi := q.node.Lo, q.node.Hi
	return lo >= 0 && lo <= api.MaxTimes && (hi == endless || hi >= max(1, lo) && hi <= api.MaxTimes)
}

// guardMay tells whether a guard may be.
func (q *part) guardMay() bool {
	return q.bare() && q.timeless() && len(q.kids) == 1 && q.kids[0].node.Op == api.NodeAtom
}

// noneMay tells that what is none of all these may not be.
func (q *part) noneMay() bool {
	return false
}

// bare tells whether there is nothing of what an atom alone has.
func (q *part) bare() bool {
	return q.node.Kind == "" && len(q.node.Conds) == 0
}

// timeless tells whether there is nothing of what a Loop alone has.
func (q *part) timeless() bool {
	return q.node.Lo == 0 && q.node.Hi == 0
}

// guard tells whether it is a guard.
func (q *part) guard() bool {
	return q.node.Op == api.NodeNot
}

// empty tells whether the empty row fits. A guard takes no row, so it keeps none from being empty.
func (q *part) empty() bool {
	switch q.node.Op {
	case api.NodeAtom:
		return false
	case api.NodeAlt:
		return slices.ContainsFunc(q.kids, (*part).empty)
	case api.NodeLoop:
		return q.node.Lo == 0
	case api.NodeSeq:
		return !slices.ContainsFunc(q.kids, func(k *part) bool { return !k.empty() })
	}
	return true
}

// deep is how many nodes stand within one another.
func (q *part) deep() int {
	most := 0
	for _, k := range q.kids {
		most = max(most, k.deep())
	}
	return 1 + most
}

// condMay tells whether a condition may be: its name and its value are a field's, and what is written of the value is read as it was.
func condMay(c api.Cond) bool {
	f := api.Event{Kind: "a", Fields: []api.Field{{Name: c.Name, V: c.V}}}
	if c.Op < api.Eq || c.Op > api.Ge || event.Check(f) != api.OK {
		return false
	}
	switch c.V.Kind {
	case api.Whole:
		return -great < c.V.N && c.V.N < great
	case api.Real:
		return !math.IsNaN(c.V.F) || math.Float64bits(c.V.F) == nan
	}
	return !strings.ContainsAny(c.V.S, "'\n\r")
}
