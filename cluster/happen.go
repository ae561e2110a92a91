package cluster

import (
	"math"

	"auspice/api"
	"auspice/client"
	"auspice/node"
)

const (
	rounds = 50 // how often messages come in a tick, at most
	turn   = 11 // draws that differ by so much are as good as one another (layer 16)
)

// happens does something with a host that is up, and then what follows of it.
func (c *Cluster) happens(i, delay int, does func(h *host) api.Errno) api.Errno {
	h := c.hosts[i]
	if !h.up {
		return api.ErrDown
	}
	e := does(h)
	for _, m := range h.Sent() {
		c.net.Send(c.now, m, delay) // what can't be sent is lost
	}
	for _, d := range h.Done() {
		c.hears(i, d)
	}
	if h.Down() {
		c.falls(i)
	}
	return e
}

// hears lets those who wait for an entry at a node hear what came there in its place: their own one, or another one of another term.
func (c *Cluster) hears(i int, d api.Done) {
	here := func(w wait) bool { return w.of == i && w.index == d.Index }
	c.answer(func(w wait) bool { return here(w) && w.term != d.Term }, (*client.Teller).Late)
	c.answer(here, func(t *client.Teller) { t.Told(d.R, c.hosts[i].lead()) })
}

// falls lets a host be down, of which nobody hears anything any more.
func (c *Cluster) falls(i int) {
	c.hosts[i].up = false
	c.answer(func(w wait) bool { return w.of == i }, (*client.Teller).Late)
}

// answer answers those who wait for something. They wait no more.
func (c *Cluster) answer(who func(w wait) bool, tell func(t *client.Teller)) {
	for k := range c.tellers {
		if t := &c.tellers[k]; t.waits && who(t.wait) {
			t.waits, t.wait = false, wait{}
			tell(t.Teller)
		}
	}
}

// ticks lets ticks pass.
func (c *Cluster) ticks(a api.Act) api.Errno {
	for range a.N {
		c.tick(a)
	}
	return api.OK
}

// tick lets a tick pass. What becomes of it at a node is that node's own.
func (c *Cluster) tick(a api.Act) {
	c.now++
	c.answer(func(w wait) bool { return c.now-w.since >= Patience }, (*client.Teller).Late)
	for i := range c.hosts {
		c.happens(i, a.Delay, func(h *host) api.Errno { return h.Tick(drawOf(a.Draw, i)) })
	}
	for range rounds {
		for _, m := range c.net.Due(c.now) {
			c.comes(m, a.Delay)
		}
	}
}

// comes lets a message come, unless it is one to a node that is down, or to a member that is not there.
func (c *Cluster) comes(m api.Msg, delay int) {
	if c.isNode(m.To) {
		c.happens(m.To, delay, func(h *host) api.Errno { return h.Take(m) })
	}
}

// drawOf is a draw and a node's number. Where that would be beyond what a number may be, it is one as good.
func drawOf(draw, i int) int {
	if draw > math.MaxInt-i {
		draw -= turn
	}
	return draw + i
}

// opens opens a host's node, one of some that were all members at first. With an error the host is as it was.
func (h *host) opens(i, nodes, draw int) api.Errno {
	n, e := node.Open(h.disk, i, 1<<nodes-1, draw)
	if e != api.OK {
		return e
	}
	h.Node, h.up = n, true
	return api.OK
}

// lays lays a text for which nobody waits.
func (h *host) lays(text string) api.Errno {
	_, _, e := h.Lay(text)
	return e
}

// lead is whom a host's node knows as the one that leads.
func (h *host) lead() int {
	return h.Core().Lead
}
