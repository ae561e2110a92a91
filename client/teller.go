package client

import (
	"slices"
	"strings"

	"auspice/api"
	"auspice/event"
	"auspice/sm"
)

// Teller tells events.
type Teller struct {
	asked
	session api.Session // none, if its ID is 0
	waiting []api.Event
	refused []api.Event
}

// NewTeller is a teller to whom nothing happened.
func NewTeller(nodes int) *Teller {
	if !many(nodes) {
		return nil
	}
	return &Teller{asked: asked{nodes: nodes}}
}

// Add lets an event wait, without what was handed in as its session and number: both are the teller's to give, when it asks.
func (t *Teller) Add(e api.Event) api.Errno {
	if t == nil || event.Check(numbered(e, api.Session{ID: 1})) != api.OK {
		return api.ErrArg
	}
	if len(t.waiting) >= api.MaxQueue {
		return api.ErrFull
	}
	e.Session, e.Seq = 0, 0
	t.waiting = append(t.waiting, copied(e))
	return api.OK
}

// Ask is what is asked now.
func (t *Teller) Ask() (api.Ask, bool) {
	if t.Left() == 0 {
		return api.Ask{}, false
	}
	c := api.Cmd{Kind: api.CmdOpen}
	if t.open() {
		c = api.Cmd{Kind: api.CmdEvent, E: numbered(t.waiting[0], t.session)}
	}
	text, _ := sm.Write(c)
	return api.Ask{To: t.to, Text: text}, true
}

// Told hears an answer.
func (t *Teller) Told(r api.Reply, lead int) {
	if t.Left() == 0 {
		return
	}
	switch {
	case r.Err == api.OK:
		t.came(r.N)
	case r.Err == api.ErrNone && t.open():
		t.session = api.Session{}
	case r.Err == api.ErrStamp && t.open():
		t.refused = append(t.refused, t.shift())
	default:
		t.turn(lead)
	}
}

// Late lets the next node be asked.
func (t *Teller) Late() {
	if t != nil {
		t.next()
	}
}

// Session is the session, and how many of its events came.
func (t *Teller) Session() (id, seq int) {
	if t == nil {
		return 0, 0
	}
	return t.session.ID, t.session.Seq
}

// Left is how many events wait.
func (t *Teller) Left() int {
	if t == nil {
		return 0
	}
	return len(t.waiting)
}

// Refused are the events that were refused.
func (t *Teller) Refused() (l []api.Event) {
	if t == nil {
		return nil
	}
	for _, e := range t.refused {
		l = append(l, copied(e))
	}
	return l
}

// open tells whether there is a session.
func (t *Teller) open() bool {
	return t.session.ID != 0
}

// came hears that what was asked came: a session was opened, or the first event was told. Any other number is the answer to something asked before.
func (t *Teller) came(n int) {
	switch {
	case !t.open():
		if n >= 1 && n <= api.MaxIndex {
			t.session = api.Session{ID: n}
		}
	case n == t.session.Seq+1:
		t.session.Seq = n
		t.shift()
	}
}

// shift lets the first event wait no more.
func (t *Teller) shift() api.Event {
	e := t.waiting[0]
	t.waiting = slices.Delete(t.waiting, 0, 1)
	return e
}

// numbered is an event as the next one of a session.
func numbered(e api.Event, s api.Session) api.Event {
	e.Session, e.Seq = s.ID, s.Seq+1
	return e
}

// copied is an event that shares no memory with that one.
func copied(e api.Event) api.Event {
	e.Kind = strings.Clone(e.Kind)
	e.Fields = slices.Clone(e.Fields)
	for i, f := range e.Fields {
		f.Name, f.V.S = strings.Clone(f.Name), strings.Clone(f.V.S)
		e.Fields[i] = f
	}
	return e
}
