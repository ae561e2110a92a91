package cluster

import (
	"auspice/api"
	"auspice/client"
)

// Do lets something happen.
func (c *Cluster) Do(a api.Act) api.Errno {
	if c == nil || !c.may(a) {
		return api.ErrArg
	}
	switch a.Kind {
	case api.ActTick:
		return c.ticks(a)
	case api.ActStop:
		return c.stop(a)
	case api.ActStart:
		return c.start(a)
	case api.ActTrip:
		return c.trip(a)
	case api.ActRoom:
		return c.room(a)
	case api.ActCut:
		return c.cut(a)
	case api.ActLose:
		return c.lose(a)
	case api.ActTwice:
		return c.twice(a)
	case api.ActMask:
		return c.happens(a.Node, a.Delay, func(h *host) api.Errno { return h.Change(a.N) })
	case api.ActLay:
		return c.happens(a.Node, a.Delay, func(h *host) api.Errno { return h.lays(a.Text) })
	case api.ActTell:
		return c.tellers[a.Who].Add(a.E)
	case api.ActAsk:
		return c.ask(a)
	case api.ActFollow:
		return c.follow(a)
	case api.ActRead:
		return c.read(a)
	}
	return api.ErrArg
}

// may tells whether an act is of a kind, and the numbers that it names are there.
func (c *Cluster) may(a api.Act) bool {
	switch a.Kind {
	case api.ActTick:
		return a.N >= 0 && a.N <= Most && isTime(a.Delay)
	case api.ActStop, api.ActStart:
		return c.isNode(a.Node)
	case api.ActTrip:
		return c.isNode(a.Node) && a.N >= 1
	case api.ActRoom:
		return c.isNode(a.Node) && a.N <= api.MaxIndex
	case api.ActCut:
		return c.isNode(a.Node) && c.isNode(a.Other)
	case api.ActLose:
		return true
	case api.ActTwice:
		return isTime(a.Delay)
	case api.ActMask, api.ActLay:
		return c.isNode(a.Node) && isTime(a.Delay)
	case api.ActAsk:
		return isClient(a.Who) && isTime(a.Delay)
	case api.ActTell, api.ActFollow, api.ActRead:
		return isClient(a.Who)
	}
	return false
}

// isTime tells whether a message may be under way for so long.
func isTime(delay int) bool {
	return delay >= 0 && delay <= api.MaxIndex
}

// stop lets the power of a node fail.
func (c *Cluster) stop(a api.Act) api.Errno {
	h := c.hosts[a.Node]
	if !h.up {
		return api.ErrDown
	}
	h.disk.Fail(a.N)
	c.falls(a.Node)
	return api.OK
}

// start opens a node anew.
func (c *Cluster) start(a api.Act) api.Errno {
	h := c.hosts[a.Node]
	if h.up {
		return api.ErrThere
	}
	h.disk.Wake()
	return h.opens(a.Node, len(c.hosts), a.Draw)
}

// trip lets the power of a node fail some time.
func (c *Cluster) trip(a api.Act) api.Errno {
	c.hosts[a.Node].disk.Trip(a.N, a.Keep)
	return api.OK
}

// room bounds what the disk of a node has room for.
func (c *Cluster) room(a api.Act) api.Errno {
	d := c.hosts[a.Node].disk
	if d.Down() {
		return api.ErrDown
	}
	if a.N < 0 {
		d.Room(a.N)
		return api.OK
	}
	d.Room(d.Used() + a.N)
	return api.OK
}

// cut cuts two nodes off from one another, or joins them.
func (c *Cluster) cut(a api.Act) api.Errno {
	c.net.Cut(a.Node, a.Other, a.N != 0)
	return api.OK
}

// lose loses a message.
func (c *Cluster) lose(a api.Act) api.Errno {
	if !c.net.Lose(a.N) {
		return api.ErrNone
	}
	return api.OK
}

// twice lets a message come once more.
func (c *Cluster) twice(a api.Act) api.Errno {
	_, e := c.net.Twice(a.N, c.now, a.Delay)
	return e
}

// ask lets a teller ask. It waits ahead of what follows, as a node alone has done at once what it laid.
func (c *Cluster) ask(a api.Act) api.Errno {
	t := &c.tellers[a.Who]
	if t.waits {
		return api.ErrBusy
	}
	q, asks := t.Ask()
	if !asks {
		return api.ErrNone
	}
	if !c.Up(q.To) {
		t.Late()
		return api.ErrDown
	}
	return c.happens(q.To, a.Delay, func(h *host) api.Errno {
		index, term, e := h.Lay(q.Text)
		if e != api.OK {
			t.Told(api.Reply{Err: e}, h.lead())
			return e
		}
		t.waits, t.wait = true, wait{of: q.To, index: index, term: term, since: c.now}
		return api.OK
	})
}

// follow lets a reader follow a pattern.
func (c *Cluster) follow(a api.Act) api.Errno {
	r := client.NewReader(len(c.hosts), a.Name, a.N)
	if r == nil {
		return api.ErrArg
	}
	c.readers[a.Who] = r
	return api.OK
}

// read lets a reader ask.
func (c *Cluster) read(a api.Act) api.Errno {
	r := c.readers[a.Who]
	if r == nil {
		return api.ErrNone
	}
	q, _ := r.Ask()
	if !c.Up(q.To) {
		r.Late()
		return api.ErrDown
	}
	l, next, e := c.hosts[q.To].Matches(q.Name, q.From, q.Most)
	r.Told(l, next, e)
	return e
}
