package raft

import (
	"auspice/api"
	"auspice/council"
)

// node is a node to which something happens: what it knows by now, and what it sends. What it knows may share memory with what was handed in, so nothing there is written over.
type node struct {
	api.Core
	sent []api.Msg
}

// happens lets something happen to a node. With an error nothing has become of it.
func (n *node) happens(in api.Input) api.Errno {
	switch in.Kind {
	case api.InTick:
		n.tick(in.Draw)
		return api.OK
	case api.InMsg:
		return n.message(in.Msg)
	case api.InText:
		return n.layText(in.Text)
	case api.InMask:
		return n.layMask(in.Mask)
	case api.InCut:
		return n.cut(in.Index, in.Text)
	}
	return api.ErrArg
}

// tick lets a tick pass.
func (n *node) tick(draw int) {
	n.Clock++
	switch {
	case n.Role == api.Leads:
		n.stayLeader()
	case n.Clock >= n.Limit:
		n.waitAnew()
		n.Limit = limit(draw)
		if n.mayStand() {
			n.stand()
		}
	}
}

// stayLeader lets a node that leads go on so, unless too few have answered it for long.
func (n *node) stayLeader() {
	if n.Clock >= Least {
		mask, _ := Members(n.Core)
		if !council.Enough(mask, n.Heard|bit(n.Me)) {
			n.follow(nobody)
		}
		n.waitAnew()
	}
	if n.Role == api.Leads {
		n.sendAll()
	}
}

// waitAnew lets a node wait from now on.
func (n *node) waitAnew() {
	n.Clock, n.Heard = 0, 0
}

// follow lets a node follow one, or nobody as yet.
func (n *node) follow(lead int) {
	n.Role, n.Lead = api.Follows, lead
}

// mayStand tells whether a node may ask for votes. One that is no member may as long as the members may change yet.
func (n *node) mayStand() bool {
	mask, index := Members(n.Core)
	return (council.Has(mask, n.Me) || index > n.Commit) && n.Term < api.MaxIndex
}

// stand lets a node ask for votes, and lead, if its own is enough.
func (n *node) stand() {
	n.Term++
	n.Vote, n.Votes = n.Me, bit(n.Me)
	n.Role, n.Lead = api.Stands, nobody
	n.leadIfEnough()
	index, term := Last(n.Core)
	for _, to := range n.others() {
		n.send(api.Msg{Kind: api.MsgAsk, To: to, Index: index, LogTerm: term})
	}
}

// leadIfEnough lets a node that stands lead, if it has enough votes.
func (n *node) leadIfEnough() {
	if mask, _ := Members(n.Core); council.Enough(mask, n.Votes) {
		n.lead()
	}
}

// lead lets a node lead. With an entry of its own term it finds out what is agreed on of the terms ahead.
func (n *node) lead() {
	n.Role, n.Lead = api.Leads, n.Me
	n.waitAnew()
	last := n.last()
	for i := range n.Next {
		n.Next[i], n.Match[i] = last+1, 0
	}
	if n.lay(api.Entry{Kind: api.EntryNoop}) != api.OK {
		n.sendAll() // others are to hear of it without an entry, too
	}
}

// layText lays a text that was handed in.
func (n *node) layText(text string) api.Errno {
	if len(text) > api.MaxCmd {
		return api.ErrLong
	}
	if n.Role != api.Leads {
		return api.ErrLead
	}
	return n.lay(api.Entry{Kind: api.EntryText, Text: text})
}

// layMask lays other members. As long as other ones are not agreed on yet, or nothing of the node's own term is, two majorities might have no node in common.
func (n *node) layMask(mask int) api.Errno {
	now, index := Members(n.Core)
	if !isMembers(mask) || !council.Near(mask, now) {
		return api.ErrArg
	}
	if n.Role != api.Leads {
		return api.ErrLead
	}
	if term, _ := n.termOf(n.Commit); index > n.Commit || term != n.Term {
		return api.ErrBusy
	}
	return n.lay(api.Entry{Kind: api.EntryMask, Mask: mask})
}

// cut lets a text stand in the place of the log up to an index.
func (n *node) cut(index int, text string) api.Errno {
	if index <= n.Base.Index || index > n.Commit {
		return api.ErrArg
	}
	if len(text) > api.MaxSnap {
		return api.ErrLong
	}
	gone, stays := n.parted(index)
	mask, _ := Members(api.Core{Base: n.Base, Log: gone})
	term, _ := n.termOf(index)
	n.Base, n.Log = api.Snap{Index: index, Term: term, Mask: mask, Text: text}, stays
	return api.OK
}

// lay lets an entry of a leader's own term stand behind its log, if there is an index for it, and sends it.
func (n *node) lay(e api.Entry) api.Errno {
	if n.last() >= api.MaxIndex {
		return api.ErrLong
	}
	e.Term = n.Term
	n.Log = append(n.Log[:len(n.Log):len(n.Log)], e)
	n.agree()
	n.sendAll()
	return api.OK
}

// agree finds what a leader's members agree on. A leader that is no member any more leads up to there.
func (n *node) agree() {
	mask, index := Members(n.Core)
	match := n.Match
	match[n.Me] = n.last()
	reached := council.Reached(mask, match)
	if term, _ := n.termOf(reached); reached > n.Commit && term == n.Term {
		n.Commit = reached
	}
	if index <= n.Commit && !council.Has(mask, n.Me) {
		n.follow(nobody)
	}
}

// last is the last index.
func (n *node) last() int {
	index, _ := Last(n.Core)
	return index
}

// termOf is the term of an index, and whether the node knows it.
func (n *node) termOf(index int) (int, bool) {
	if index == n.Base.Index {
		return n.Base.Term, true
	}
	e, there := entry(n.Core, index)
	return e.Term, there
}

// parted is the log up to an index that is in it, and behind it.
func (n *node) parted(index int) (ahead, behind []api.Entry) {
	i := index - n.Base.Index
	return n.Log[:i:i], n.Log[i:]
}

// others are the other members.
func (n *node) others() []int {
	mask, _ := Members(n.Core)
	return council.Nodes(mask &^ bit(n.Me))
}

// sendAll sends to each other member.
func (n *node) sendAll() {
	for _, to := range n.others() {
		n.sendTo(to)
	}
}

// sendTo sends what a node has not yet, as far as this one knows.
func (n *node) sendTo(to int) {
	ahead := n.Next[to] - 1
	if ahead < n.Base.Index {
		n.send(api.Msg{Kind: api.MsgSnap, To: to, Snap: copiedSnap(n.Base)})
		return
	}
	_, entries := n.parted(ahead)
	term, _ := n.termOf(ahead)
	n.send(api.Msg{Kind: api.MsgLog, To: to, Index: ahead, LogTerm: term, Entries: copiedEntries(load(entries)), Commit: n.Commit})
}

// send sends a message.
func (n *node) send(m api.Msg) {
	m.From, m.Term = n.Me, n.Term
	n.sent = append(n.sent, m)
}

// load is as many of some entries, from the front on, as go in a message.
func load(entries []api.Entry) []api.Entry {
	size := 0
	for i, e := range entries {
		size += len(e.Text)
		if i == Many || i > 0 && size > Bulk {
			return entries[:i]
		}
	}
	return entries
}

// bit is the mask of a node alone.
func bit(i int) int {
	return 1 << i
}
