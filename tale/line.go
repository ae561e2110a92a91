package tale

import (
	"iter"
	"math"
	"slices"
	"strings"

	"auspice/api"
	"auspice/sm"
)

// names are the first words of lines, by the kinds of acts. An ActCut may be join, too, and an ActLay add.
var names = [...]string{
	api.ActTick: "tick", api.ActStop: "stop", api.ActStart: "start", api.ActTrip: "trip", api.ActRoom: "room",
	api.ActCut: "cut", api.ActLose: "lose", api.ActTwice: "twice", api.ActMask: "mask", api.ActLay: "lay",
	api.ActTell: "tell", api.ActAsk: "ask", api.ActFollow: "follow", api.ActRead: "read",
}

// Show is an act's line. What is not zero though its line has no place for it, and what may not stand there, is missed when the line is read.
func Show(a api.Act) (string, api.Errno) {
	if len(a.Text) > api.MaxCmd {
		return "", api.ErrArg
	}
	s := shown(a)
	if b, e := Read(s); e != api.OK || !same(a, b) {
		return "", api.ErrArg
	}
	return s, api.OK
}

// Read is the act of a line.
func Read(s string) (api.Act, api.Errno) {
	a, ok := read(split(s))
	if !ok {
		return api.Act{}, api.ErrForm
	}
	return a, api.OK
}

// line lays words, with one blank between.
func line(words ...string) string {
	return strings.Join(words, " ")
}

// words yields a line's words, each with all that stands from it on.
func words(s string) iter.Seq2[string, string] {
	return func(yield func(word, all string) bool) {
		all := s
		for {
			word, behind, more := strings.Cut(all, " ")
			if !yield(word, all) || !more {
				return
			}
			all = behind
		}
	}
}

// places are where an act's numbers stand with which its line begins, in their order.
func places(a *api.Act) []*int {
	switch a.Kind {
	case api.ActTick:
		return []*int{&a.N, &a.Draw, &a.Delay}
	case api.ActStop, api.ActRoom:
		return []*int{&a.Node, &a.N}
	case api.ActStart:
		return []*int{&a.Node, &a.Draw}
	case api.ActTrip:
		return []*int{&a.Node, &a.N, &a.Keep}
	case api.ActCut:
		return []*int{&a.Node, &a.Other}
	case api.ActLose:
		return []*int{&a.N}
	case api.ActTwice:
		return []*int{&a.N, &a.Delay}
	case api.ActMask:
		return []*int{&a.Node, &a.N, &a.Delay}
	case api.ActLay:
		return []*int{&a.Node, &a.Delay}
	case api.ActAsk:
		return []*int{&a.Who, &a.Delay}
	}
	return []*int{&a.Who} // tell, follow, read
}

// added is the pattern that a text adds, if a line can say it.
func added(text string) (c api.Cmd, ok bool) {
	c, e := sm.Read(text)
	return c, e == api.OK && c.Kind == api.CmdAdd && !strings.Contains(c.Text, "\n")
}

// adds tells whether a text adds such a pattern.
func adds(text string) bool {
	_, ok := added(text)
	return ok
}

// same tells whether two acts are the same, their real numbers by the bits.
func same(a, b api.Act) bool {
	return numbers(a) == numbers(b) && texts(a) == texts(b) && slices.EqualFunc(a.E.Fields, b.E.Fields, sameFields)
}

// numbers and texts are what an act is, but for fields.
func numbers(a api.Act) [11]int {
	return [...]int{a.Kind, a.Node, a.Other, a.Who, a.N, a.Keep, a.Draw, a.Delay, a.E.Session, a.E.Seq, a.E.Stamp}
}

func texts(a api.Act) [3]string {
	return [...]string{a.Name, a.Text, a.E.Kind}
}

// sameFields tells whether two fields are the same.
func sameFields(a, b api.Field) bool {
	bits := math.Float64bits(a.V.F) == math.Float64bits(b.V.F)
	return bits && a.Name == b.Name && a.V.Kind == b.V.Kind && a.V.N == b.V.N && a.V.S == b.V.S
}
