package sm

import (
	"auspice/api"
	"auspice/bits"
	"auspice/book"
	"auspice/engine"
	"auspice/event"
	"auspice/keep"
	"auspice/sess"
)

// Save is a machine's text.
func (m *Machine) Save() string {
	if m == nil {
		m = New()
	}
	s := bits.Num(uint64(m.index)) + bits.Num(uint64(m.count)) + bits.Num(uint64(m.stamp))
	s += bits.Text(m.sessions.Text()) + bits.Num(uint64(m.patterns.size()))
	for name, p := range m.patterns.all() {
		track, _ := keep.Write(p.engine.Track())
		s += bits.Text(name) + bits.Text(p.text) + bits.Num(uint64(p.from)) + bits.Text(track) + bits.Text(p.book.Text())
	}
	return s
}

// Load is the machine that a text says.
func Load(s string) (*Machine, api.Errno) {
	tape := bits.At(s)
	// A number that is none of this program's turns into one below 0, which may not be.
	m := &Machine{index: int(tape.Num()), count: int(tape.Num()), stamp: int(tape.Num())}
	if !index(m.index) || !index(m.count) || m.stamp < 0 || !m.takeSessions(tape) || !m.takePatterns(tape) || tape.End() != api.OK {
		return nil, api.ErrForm
	}
	return m, api.OK
}

// takeSessions takes the sessions off a tape, if none has a number that is still to come.
func (m *Machine) takeSessions(tape *bits.Tape) bool {
	t, e := sess.Read(tape.Text(api.MaxSnap))
	if e != api.OK {
		return false
	}
	for _, x := range t.All() {
		if x.ID > m.index {
			return false
		}
	}
	m.sessions = t
	return true
}

// takePatterns takes the patterns off a tape, if their names rise.
func (m *Machine) takePatterns(tape *bits.Tape) bool {
	n := tape.Num()
	if n > api.MaxPatterns {
		return false
	}
	last := ""
	for range n {
		name := tape.Text(api.MaxWord)
		p, ok := m.takePattern(tape)
		if !ok || !event.Word(name) || name <= last {
			return false
		}
		m.patterns.put(name, p)
		last = name
	}
	return true
}

// takePattern takes what belongs to a pattern's name off a tape, if it is one that fits the machine.
func (m *Machine) takePattern(tape *bits.Tape) (pattern, bool) {
	p := pattern{text: tape.Text(api.MaxSource), from: int(tape.Num())}
	track, noTrack := keep.Read(tape.Text(api.MaxSnap))
	kept, noBook := book.Load(tape.Text(api.MaxSnap))
	x, noMachine := machine(p.text)
	if noTrack != api.OK || noBook != api.OK || noMachine != api.OK {
		return pattern{}, false
	}
	if p.from < 0 || p.from > m.count || track.Count != m.count-p.from || track.Stamp > m.stamp {
		return pattern{}, false
	}
	g, e := engine.Resume(x, track)
	p.engine, p.book = g, kept
	return p, e == api.OK
}
