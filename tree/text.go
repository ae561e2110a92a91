package tree

import (
	"math"
	"strconv"
	"strings"

	"auspice/api"
)

// The words that stand for no kind of an event.
const (
	anyKind = "any"
	within  = "within"
)

// text is the text of a whole, and of how much later its last event may be.
func text(whole *part, late int) string {
	var b strings.Builder
	whole.write(&b)
	if late != 0 {
		put(&b, " ", within, " ", strconv.Itoa(late))
	}
	return b.String()
}

// write writes a part's text.
func (q *part) write(b *strings.Builder) {
	switch q.node.Op {
	case api.NodeAtom:
		q.writeAtom(b)
	case api.NodeNot:
		put(b, "!")
		q.kids[0].write(b)
	case api.NodeSeq:
		q.writeKids(b, " ; ")
	case api.NodeAlt:
		q.writeKids(b, " | ")
	case api.NodeLoop:
		q.writeKids(b, "")
		put(b, times(q.node.Lo, q.node.Hi))
	}
}

// writeAtom writes an atom's text.
func (q *part) writeAtom(b *strings.Builder) {
	if q.node.Kind == "" {
		put(b, anyKind)
	}
	put(b, q.node.Kind)
	ahead := "["
	for _, c := range q.node.Conds {
		put(b, ahead, c.Name, sign(c.Op), value(c.V))
		ahead = ", "
	}
	if len(q.node.Conds) > 0 {
		put(b, "]")
	}
}

// writeKids writes the texts of the kids, with a text between, and in brackets where they would say another thing without.
func (q *part) writeKids(b *strings.Builder, between string) {
	for i, k := range q.kids {
		if i > 0 {
			put(b, between)
		}
		if k.binds() > q.binds() {
			k.write(b)
			continue
		}
		put(b, "(")
		k.write(b)
		put(b, ")")
	}
}

// binds is how close what a part's text is made of holds together.
func (q *part) binds() int {
	switch q.node.Op {
	case api.NodeAlt:
		return 1
	case api.NodeSeq:
		return 2
	case api.NodeLoop:
		return 3
	}
	return 4
}

// times is what stands behind a Loop's kid.
func times(lo, hi int) string {
	switch {
	case lo == 0 && hi == endless:
		return "*"
	case lo == 1 && hi == endless:
		return "+"
	case lo == 0 && hi == 1:
		return "?"
	case hi == endless:
		return "{" + strconv.Itoa(lo) + ",}"
	}
	return "{" + strconv.Itoa(lo) + "," + strconv.Itoa(hi) + "}"
}

// sign is how a comparison is written.
func sign(op int) string {
	switch op {
	case api.Eq:
		return "="
	case api.Ne:
		return "!="
	case api.Lt:
		return "<"
	case api.Le:
		return "<="
	case api.Gt:
		return ">"
	}
	return ">="
}

// value is how a condition's value is written.
func value(v api.Value) string {
	switch v.Kind {
	case api.Whole:
		return strconv.Itoa(v.N)
	case api.Real:
		s := strconv.FormatUint(math.Float64bits(v.F), 16)
		return "#" + strings.Repeat("0", 16-len(s)) + s
	}
	return "'" + v.S + "'"
}

// put writes texts, one behind the other.
func put(b *strings.Builder, l ...string) {
	for _, s := range l {
		b.WriteString(s)
	}
}
