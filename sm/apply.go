package sm

import (
	"auspice/api"
)

// Apply lets a command come.
func (m *Machine) Apply(index int, text string) api.Reply {
	if m == nil || index <= m.index || index > api.MaxIndex {
		return api.Reply{Err: api.ErrArg}
	}
	m.index = index
	c, e := Read(text)
	if e != api.OK {
		return api.Reply{Err: e}
	}
	n, e := m.come(c)
	if e != api.OK {
		return api.Reply{Err: e}
	}
	return api.Reply{N: n}
}

// come lets a command come that may be. Beside an error the number says nothing.
func (m *Machine) come(c api.Cmd) (int, api.Errno) {
	switch c.Kind {
	case api.CmdOpen:
		return m.index, m.sessions.Open(m.index)
	case api.CmdEvent:
		return c.E.Seq, m.tell(c.E)
	case api.CmdClose:
		return c.ID, m.sessions.Close(c.ID)
	case api.CmdAdd:
		e := m.add(c.Name, c.Text)
		return m.patterns.size(), e
	case api.CmdDrop:
		e := m.drop(c.Name)
		return m.patterns.size(), e
	default:
		return m.forget(c.Name, c.N)
	}
}

// tell lets an event come, if it did not come before.
func (m *Machine) tell(v api.Event) api.Errno {
	fresh, e := m.sessions.May(v.Session, v.Seq)
	switch {
	case !fresh:
		return e
	case v.Stamp < m.stamp:
		return api.ErrStamp
	case m.count >= api.MaxIndex:
		return api.ErrLong
	}
	m.sessions.Take(v.Session, v.Seq)
	m.count++
	m.stamp = v.Stamp
	for _, p := range m.patterns.all() {
		p.feed(v)
	}
	return api.OK
}

// add adds a pattern, which finds from the next event on.
func (m *Machine) add(name, text string) api.Errno {
	if _, there := m.patterns.get(name); there {
		return api.ErrThere
	}
	p, e := begun(text, m.count)
	if e != api.OK {
		return e
	}
	if m.patterns.size() >= api.MaxPatterns {
		return api.ErrFull
	}
	m.patterns.put(name, p)
	return api.OK
}

// drop lets a pattern go.
func (m *Machine) drop(name string) api.Errno {
	if !m.patterns.drop(name) {
		return api.ErrNone
	}
	return api.OK
}

// forget lets matches of a pattern go, and tells the number of the first one that is left.
func (m *Machine) forget(name string, below int) (int, api.Errno) {
	p, there := m.patterns.get(name)
	if !there {
		return 0, api.ErrNone
	}
	e := p.book.Forget(below)
	return p.book.Base(), e
}
