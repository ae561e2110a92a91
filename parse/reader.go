package parse

import "auspice/api"

const (
	endless = -1       // the Hi of a loop that goes on however often
	anyKind = "any"    // the word of an atom that takes events of all kinds
	within  = "within" // the word ahead of how much later the last event may be
)

// misfit is thrown where the text of a pattern cannot go on: at is the place of the token that does not fit.
type misfit struct {
	at int
}

// reader reads the tokens of a pattern. Each thing of the grammar has a method that reads it; those that read nodes lay them behind their kids, and answer their numbers.
type reader struct {
	left  []api.Token // those that are not read yet; the last one is the end
	nodes []api.Node
}

// pattern reads a pattern, which must be all that there is.
func (r *reader) pattern() api.Pattern {
	r.alt()
	late := 0
	if r.took(within) {
		late = r.number()
	}
	r.need(r.left[0].Kind == api.TokEnd)
	return api.Pattern{Nodes: r.nodes, Within: late}
}

// alt reads an alt.
func (r *reader) alt() int {
	return r.row(api.NodeAlt, "|", r.seq)
}

// seq reads a seq.
func (r *reader) seq() int {
	return r.row(api.NodeSeq, ";", r.part)
}

// row reads things of one sort with a sign between: one of them stands for itself, more are the kids of a node.
func (r *reader) row(op int, between string, read func() int) int {
	kids := []int{read()}
	for r.took(between) {
		kids = append(kids, read())
	}
	if len(kids) == 1 {
		return kids[0]
	}
	return r.lay(api.Node{Op: op, Kids: kids})
}

// part reads a part.
func (r *reader) part() int {
	if r.took("!") {
		return r.lay(api.Node{Op: api.NodeNot, Kids: []int{r.atom()}})
	}
	unit := r.unit()
	lo, hi, loop := r.times()
	if !loop {
		return unit
	}
	return r.lay(api.Node{Op: api.NodeLoop, Lo: lo, Hi: hi, Kids: []int{unit}})
}

// times reads how often a unit may stand, if that is told.
func (r *reader) times() (lo, hi int, told bool) {
	switch {
	case r.took("*"):
		return 0, endless, true
	case r.took("+"):
		return 1, endless, true
	case r.took("?"):
		return 0, 1, true
	case r.took("{"):
		lo, hi = r.number(), endless
		r.need(r.took(","))
		if r.left[0].Kind == api.TokNum {
			hi = r.number()
		}
		r.need(r.took("}"))
		return lo, hi, true
	}
	return 0, 0, false
}

// unit reads a unit.
func (r *reader) unit() int {
	if !r.took("(") {
		return r.atom()
	}
	i := r.alt()
	r.need(r.took(")"))
	return i
}

// lay lays a node behind those that are there, and answers its number.
func (r *reader) lay(n api.Node) int {
	r.nodes = append(r.nodes, n)
	return len(r.nodes) - 1
}

// take reads the next token, whatever it is. Nobody goes on behind the end.
func (r *reader) take() api.Token {
	t := r.left[0]
	r.left = r.left[1:]
	return t
}

// took reads the next token, if it is that sign or word. No token of another kind has such a Text: those of texts, numbers and bits begin with other bytes.
func (r *reader) took(text string) bool {
	if r.left[0].Text != text {
		return false
	}
	r.take()
	return true
}

// need throws the place where the reader stands, unless it fits what stands there.
func (r *reader) need(fits bool) {
	if !fits {
		panic(misfit{at: r.left[0].At})
	}
}

// kind reads a token that must be of that kind.
func (r *reader) kind(kind int) api.Token {
	r.need(r.left[0].Kind == kind)
	return r.take()
}

// number reads a number.
func (r *reader) number() int {
	return r.kind(api.TokNum).N
}

// word reads a word.
func (r *reader) word() string {
	return r.kind(api.TokWord).Text
}
