package event

import (
	"auspice/api"
	"auspice/bits"
)

// Encode is an event's text.
func Encode(e api.Event) (string, api.Errno) {
	if none := Check(e); none != api.OK {
		return "", none
	}
	s := bits.Num(uint64(e.Session)) + bits.Num(uint64(e.Seq)) + bits.Num(uint64(e.Stamp)) + bits.Text(e.Kind)
	s += bits.Num(uint64(len(e.Fields)))
	for _, f := range e.Fields {
		s += bits.Text(f.Name) + bits.Num(uint64(f.V.Kind)) + what(f.V)
	}
	return s, api.OK
}

// Decode is the event that a text says.
func Decode(s string) (api.Event, api.Errno) {
	t := bits.At(s)
	// A number that is none of this program's turns into one below 0, which Check refuses.
	e := api.Event{Session: int(t.Num()), Seq: int(t.Num()), Stamp: int(t.Num()), Kind: t.Text(api.MaxWord)}
	n := t.Num()
	if n > api.MaxFields {
		return api.Event{}, api.ErrForm
	}
	for range n {
		e.Fields = append(e.Fields, api.Field{Name: t.Text(api.MaxWord), V: takeValue(t)})
	}
	if t.End() != api.OK || Check(e) != api.OK {
		return api.Event{}, api.ErrForm
	}
	return e, api.OK
}

// what is the bytes of what a value's kind names.
func what(v api.Value) string {
	switch v.Kind {
	case api.Whole:
		return bits.Int(v.N)
	case api.Real:
		return bits.Real(v.F)
	}
	return bits.Text(v.S)
}

// takeValue takes a value off a tape. One of no kind is left for Check.
func takeValue(t *bits.Tape) api.Value {
	v := api.Value{Kind: int(t.Num())}
	switch v.Kind {
	case api.Whole:
		v.N = t.Int()
	case api.Real:
		v.F = t.Real()
	case api.Text:
		v.S = t.Text(api.MaxText)
	}
	return v
}
