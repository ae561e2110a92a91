package sm

import (
	"auspice/api"
	"auspice/book"
	"auspice/engine"
	"auspice/nfa"
	"auspice/parse"
)

// pattern is a pattern that was added: its text, the number of the first event that it sees, and what finds and keeps its matches.
type pattern struct {
	text   string
	from   int
	engine *engine.Engine
	book   *book.Book
}

// begun is a pattern that has seen no event yet.
func begun(text string, from int) (pattern, api.Errno) {
	m, e := machine(text)
	if e != api.OK {
		return pattern{}, e
	}
	g, e := engine.New(m)
	return pattern{text: text, from: from, engine: g, book: book.New()}, e
}

// machine is the machine of a pattern's text.
func machine(text string) (api.Machine, api.Errno) {
	p, _, e := parse.Pattern(text)
	if e != api.OK {
		return api.Machine{}, e
	}
	return nfa.Make(p)
}

// feed lets an event come to a pattern. Its engine numbers the events from 0 on, the machine those from the pattern's first one on.
func (p pattern) feed(v api.Event) {
	found, _ := p.engine.Feed(v)
	for _, x := range found {
		for i := range x.Picks {
			x.Picks[i] += p.from
		}
		p.book.Put(x)
	}
}
