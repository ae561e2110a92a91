package tree

import (
	"fmt"
	"math"
	"math/rand"
	"slices"
	"strings"

	"auspice/api"
	"auspice/event"
)

// draws is a row of numbers that is the same at each run.
func draws() *rand.Rand { return rand.New(rand.NewSource(1)) }

// plan is a pattern's node with its kids, which is laid as nodes afterwards.
type plan struct {
	n    api.Node
	kids []plan
}

// The values of the three kinds, a condition, and plans of all kinds of nodes.
func aWhole(n int) api.Value    { return api.Value{Kind: api.Whole, N: n} }
func aReal(f float64) api.Value { return api.Value{Kind: api.Real, F: f} }
func aText(s string) api.Value  { return api.Value{Kind: api.Text, S: s} }

func is(name string, op int, v api.Value) api.Cond { return api.Cond{Name: name, Op: op, V: v} }

func atom(kind string, l ...api.Cond) plan {
	return plan{n: api.Node{Op: api.NodeAtom, Kind: kind, Conds: l}}
}
func seq(kids ...plan) plan { return plan{api.Node{Op: api.NodeSeq}, kids} }
func alt(kids ...plan) plan { return plan{api.Node{Op: api.NodeAlt}, kids} }
func not(kid plan) plan     { return plan{api.Node{Op: api.NodeNot}, []plan{kid}} }
func loop(lo, hi int, kid plan) plan {
	return plan{api.Node{Op: api.NodeLoop, Lo: lo, Hi: hi}, []plan{kid}}
}

// pattern lays a plan, kids just ahead of those that have them.
func (q plan) pattern() api.Pattern {
	var p api.Pattern
	q.lay(&p.Nodes)
	return p
}

func (q plan) lay(l *[]api.Node) int {
	n := q.n
	n.Conds = slices.Clone(n.Conds)
	for _, k := range q.kids {
		n.Kids = append(n.Kids, k.lay(l))
	}
	*l = append(*l, n)
	return len(*l) - 1
}

// until is a pattern with a Within.
func until(p api.Pattern, n int) api.Pattern {
	p.Within = n
	return p
}

// mixed is the pattern with its nodes in another order, kids still ahead of those that have them.
func mixed(r *rand.Rand, p api.Pattern) api.Pattern {
	place := map[int]int{}
	m := api.Pattern{Within: p.Within}
	for len(place) < len(p.Nodes) {
		i := r.Intn(len(p.Nodes))
		if _, done := place[i]; done {
			continue
		}
		n := p.Nodes[i]
		n.Kids = nil
		for _, k := range p.Nodes[i].Kids {
			if at, done := place[k]; done {
				n.Kids = append(n.Kids, at)
			}
		}
		if len(n.Kids) == len(p.Nodes[i].Kids) {
			place[i] = len(m.Nodes)
			m.Nodes = append(m.Nodes, n)
		}
	}
	return m
}

// anyPlan is a plan of at most that many nodes within one another; it may be, but that it may be empty or of too many nodes.
func anyPlan(r *rand.Rand, deep int) plan {
	if deep < 2 || r.Intn(4) == 0 {
		return anyAtom(r)
	}
	switch r.Intn(3) {
	case 0:
		hi := 1 + r.Intn(api.MaxTimes)
		lo := r.Intn(hi + 1)
		if r.Intn(3) == 0 {
			lo, hi = r.Intn(3), -1
		}
		kid := anyPlan(r, deep-1)
		for kid.least() == 0 {
			kid = anyPlan(r, deep-1)
		}
		return loop(lo, hi, kid)
	case 1:
		q := alt(anyPlan(r, deep-1), anyPlan(r, deep-1))
		for r.Intn(3) == 0 {
			q.kids = append(q.kids, anyPlan(r, deep-1))
		}
		return q
	}
	q := seq(anyPlan(r, deep-1))
	for r.Intn(3) == 0 && deep > 2 {
		q.kids = append(q.kids, []plan{not(anyAtom(r)), anyPlan(r, deep-1)}[r.Intn(2)])
	}
	q.kids = append(q.kids, anyPlan(r, deep-1))
	return q
}

// anyAtom is an atom that may be.
func anyAtom(r *rand.Rand) plan {
	q := atom([]string{"", "a", "b0", "c_", "abcdefghijklmnop"}[r.Intn(5)])
	for r.Intn(3) == 0 && len(q.n.Conds) < api.MaxConds {
		v := []api.Value{aWhole(int(r.Uint64()) >> (5 + r.Intn(59))), aReal(math.Float64frombits(r.Uint64() << r.Intn(64))), aText([]string{"", "s", "b c", "\xff\x00 ;"}[r.Intn(4)])}[r.Intn(3)]
		if math.IsNaN(v.F) {
			v.F = math.NaN()
		}
		q.n.Conds = append(q.n.Conds, is([]string{"x", "y1", "z_", "any"}[r.Intn(4)], 1+r.Intn(6), v))
	}
	return q
}

// least is how many events a row that fits has at least.
func (q plan) least() int {
	n := 0
	for i, k := range q.kids {
		if m := k.least(); q.n.Op != api.NodeAlt {
			n += m
		} else if i == 0 || m < n {
			n = m
		}
	}
	switch q.n.Op {
	case api.NodeAtom:
		return 1
	case api.NodeNot:
		return 0
	case api.NodeLoop:
		return q.n.Lo * n
	}
	return n
}

// shown is a plan's text, by the words of the chapter.
func (q plan) shown() string {
	switch q.n.Op {
	case api.NodeSeq:
		return strings.Join(q.inside(), " ; ")
	case api.NodeAlt:
		return strings.Join(q.inside(), " | ")
	case api.NodeNot:
		return "!" + q.inside()[0]
	case api.NodeLoop:
		how := fmt.Sprintf("{%d,%d}", q.n.Lo, q.n.Hi)
		if q.n.Hi == -1 {
			how = fmt.Sprintf("{%d,}", q.n.Lo)
		}
		if short, is := map[string]string{"{0,}": "*", "{1,}": "+", "{0,1}": "?"}[how]; is {
			how = short
		}
		return q.inside()[0] + how
	}
	var l []string
	for _, c := range q.n.Conds {
		v := map[int]string{api.Whole: fmt.Sprint(c.V.N), api.Real: fmt.Sprintf("#%016x", math.Float64bits(c.V.F)), api.Text: "'" + c.V.S + "'"}[c.V.Kind]
		l = append(l, c.Name+[]string{"", "=", "!=", "<", "<=", ">", ">="}[c.Op]+v)
	}
	s := q.n.Kind
	if s == "" {
		s = "any"
	}
	if len(l) > 0 {
		s += "[" + strings.Join(l, ", ") + "]"
	}
	return s
}

// inside are the texts of the kids, in brackets where these stand.
func (q plan) inside() (l []string) {
	in := map[int][]int{api.NodeAlt: {api.NodeSeq, api.NodeLoop, api.NodeAlt}, api.NodeSeq: {api.NodeSeq, api.NodeLoop}, api.NodeLoop: {api.NodeLoop}}
	for _, k := range q.kids {
		s := k.shown()
		if slices.Contains(in[k.n.Op], q.n.Op) {
			s = "(" + s + ")"
		}
		l = append(l, s)
	}
	return l
}

// mayBe tells by the words of the chapter, from the whole down, whether a pattern may be.
func mayBe(p api.Pattern) bool {
	if len(p.Nodes) < 1 || len(p.Nodes) > api.MaxParts || p.Within < 0 || p.Within > api.MaxIndex {
		return false
	}
	kids := map[int]bool{}
	for i, n := range p.Nodes {
		for _, k := range n.Kids {
			if k < 0 || k >= i || kids[k] {
				return false
			}
			kids[k] = true
		}
	}
	if len(kids) != len(p.Nodes)-1 {
		return false
	}
	q := planned(p, len(p.Nodes)-1)
	return q.n.Op != api.NodeNot && q.least() > 0 && q.fine(1)
}

// planned is the plan of a pattern that is a tree.
func planned(p api.Pattern, i int) plan {
	q := plan{n: p.Nodes[i]}
	for _, k := range p.Nodes[i].Kids {
		q.kids = append(q.kids, planned(p, k))
	}
	return q
}

// fine tells whether a plan that so many nodes are within, it among them, and all in it are as they ought to be.
func (q plan) fine(deep int) bool {
	nots := 0
	for _, k := range q.kids {
		if !k.fine(deep + 1) {
			return false
		}
		if k.n.Op == api.NodeNot {
			nots++
		}
	}
	n, many := q.n, len(q.kids)
	noAtoms := n.Kind == "" && len(n.Conds) == 0
	noLoops := n.Lo == 0 && n.Hi == 0
	if deep > api.MaxDeep {
		return false
	}
	switch n.Op {
	case api.NodeAtom:
		word := n.Kind == "" || event.Word(n.Kind) && n.Kind != "any" && n.Kind != "within"
		return word && noLoops && many == 0 && len(n.Conds) <= 4 && !slices.ContainsFunc(n.Conds, func(c api.Cond) bool { return !fineCond(c) })
	case api.NodeSeq:
		return noAtoms && noLoops && many > 1 && q.kids[0].n.Op != api.NodeNot && q.kids[many-1].n.Op != api.NodeNot
	case api.NodeAlt:
		return noAtoms && noLoops && many > 1 && nots == 0
	case api.NodeNot:
		return noAtoms && noLoops && many == 1 && q.kids[0].n.Op == api.NodeAtom
	case api.NodeLoop:
		times := n.Hi == -1 || n.Hi >= 1 && n.Hi >= n.Lo && n.Hi <= 8
		return noAtoms && many == 1 && nots == 0 && q.kids[0].least() > 0 && n.Lo >= 0 && n.Lo <= 8 && times
	}
	return false
}

// fineCond tells whether a condition is as it ought to be.
func fineCond(c api.Cond) bool {
	noN, noF, noS := c.V.N == 0, math.Float64bits(c.V.F) == 0, c.V.S == ""
	v := false
	switch c.V.Kind {
	case api.Whole:
		v = noF && noS && len(strings.Trim(fmt.Sprint(c.V.N), "-")) <= 18
	case api.Real:
		v = noN && noS && (c.V.F == c.V.F || math.Float64bits(c.V.F) == 0x7ff8000000000001)
	case api.Text:
		v = noN && noF && len(c.V.S) <= 64 && !strings.Contains(c.V.S, "'") && !strings.Contains(c.V.S, "\n") && !strings.Contains(c.V.S, "\r")
	}
	return v && event.Word(c.Name) && slices.Contains([]int{api.Eq, api.Ne, api.Lt, api.Le, api.Gt, api.Ge}, c.Op)
}
