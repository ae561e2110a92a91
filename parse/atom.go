package parse

import (
	"math"

	"auspice/api"
	"auspice/real"
)

const nan = 0x7ff8000000000001 // the bits of the one NaN that a condition may have

// atom reads an atom.
func (r *reader) atom() int {
	n := api.Node{Op: api.NodeAtom, Kind: r.word()}
	if n.Kind == anyKind {
		n.Kind = ""
	}
	if r.took("[") {
		n.Conds = append(n.Conds, r.cond())
		for r.took(",") {
			n.Conds = append(n.Conds, r.cond())
		}
		r.need(r.took("]"))
	}
	return r.lay(n)
}

// cond reads a condition.
func (r *reader) cond() api.Cond {
	return api.Cond{Name: r.word(), Op: r.comparison(), V: r.value()}
}

// comparison reads the sign of a comparison.
func (r *reader) comparison() int {
	switch {
	case r.took("="):
		return api.Eq
	case r.took("!="):
		return api.Ne
	case r.took("<"):
		return api.Lt
	case r.took("<="):
		return api.Le
	case r.took(">"):
		return api.Gt
	}
	r.need(r.took(">="))
	return api.Ge
}

// value reads a value.
func (r *reader) value() api.Value {
	switch r.left[0].Kind {
	case api.TokNum:
		return r.quotient()
	case api.TokText:
		return api.Value{Kind: api.Text, S: r.take().S}
	case api.TokBits:
		return realValue(math.Float64frombits(uint64(r.take().N)))
	}
	switch {
	case r.took("nan"):
		return realValue(math.NaN())
	case r.took("inf"):
		return realValue(math.Inf(1))
	}
	r.need(r.took("ninf"))
	return realValue(math.Inf(-1))
}

// quotient reads a whole number, or the real one of two.
func (r *reader) quotient() api.Value {
	n := r.number()
	if !r.took("/") {
		return api.Value{Kind: api.Whole, N: n}
	}
	return realValue(real.Part(n, r.number()))
}

// realValue is the value of a real number.
func realValue(f float64) api.Value {
	if math.IsNaN(f) { // whichever it was: a pattern may have just one
		f = math.Float64frombits(nan)
	}
	return api.Value{Kind: api.Real, F: f}
}
