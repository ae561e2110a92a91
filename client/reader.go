package client

import (
	"slices"
	"strings"

	"auspice/api"
	"auspice/event"
)

// Reader reads matches.
type Reader struct {
	asked
	name string
	most int
	at   int
	gone int
	got  []api.Got
}

// NewReader is a reader that read nothing.
func NewReader(nodes int, name string, most int) *Reader {
	if !many(nodes) || !event.Word(name) || most < 1 {
		return nil
	}
	return &Reader{asked: asked{nodes: nodes}, name: strings.Clone(name), most: most}
}

// Ask is what is asked now.
func (r *Reader) Ask() (api.Ask, bool) {
	if r == nil {
		return api.Ask{}, false
	}
	return api.Ask{To: r.to, Name: strings.Clone(r.name), From: r.at, Most: r.most}, true
}

// Told hears an answer.
func (r *Reader) Told(l []api.Match, next int, e api.Errno) {
	switch {
	case r == nil:
	case e == api.OK && r.ahead(next) == len(l):
		r.take(l)
	case e == api.ErrGone && r.ahead(next) > 0:
		r.gone += r.ahead(next)
		r.at = next
	default:
		r.next()
	}
}

// Late lets the next node be asked.
func (r *Reader) Late() {
	if r != nil {
		r.next()
	}
}

// At is the number of the next match.
func (r *Reader) At() int {
	if r == nil {
		return 0
	}
	return r.at
}

// Got is what was got.
func (r *Reader) Got() (l []api.Got) {
	if r == nil {
		return nil
	}
	for _, x := range r.got {
		l = append(l, got(x.N, x.M))
	}
	return l
}

// Gone is how many matches were gone.
func (r *Reader) Gone() int {
	if r == nil {
		return 0
	}
	return r.gone
}

// ahead is how far a number is from the next match on, -1 if it lies behind. Only of one that does not is the difference sure not to go round.
func (r *Reader) ahead(next int) int {
	if next < r.at {
		return -1
	}
	return next - r.at
}

// take gets matches, from the next one on.
func (r *Reader) take(l []api.Match) {
	for _, m := range l {
		r.got = append(r.got, got(r.at, m))
		r.at++
	}
}

// got is a match and its number, which shares no memory with that one.
func got(n int, m api.Match) api.Got {
	return api.Got{N: n, M: api.Match{Picks: slices.Clone(m.Picks)}}
}
