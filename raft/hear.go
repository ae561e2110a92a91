package raft

import "auspice/api"

// message lets a message come.
func (n *node) message(m api.Msg) api.Errno {
	if !Check(m) || m.To != n.Me {
		return api.ErrArg
	}
	if m.Kind == api.MsgAsk && n.isLed() {
		return api.OK
	}
	if m.Term < n.Term {
		n.refuse(m)
		return api.OK
	}
	if m.Term > n.Term {
		n.Term, n.Vote = m.Term, nobody
		n.follow(nobody)
	}
	n.hear(m)
	return api.OK
}

// isLed tells whether a node has one that leads, of late. Who stands then is not to unseat that one.
func (n *node) isLed() bool {
	return n.Role == api.Leads || n.Lead != nobody && n.Clock < Least
}

// refuse answers a message of a lesser term, so that who sent it learns of the greater one.
func (n *node) refuse(m api.Msg) {
	switch m.Kind {
	case api.MsgAsk:
		n.send(api.Msg{Kind: api.MsgVote, To: m.From})
	case api.MsgLog, api.MsgSnap:
		n.send(api.Msg{Kind: api.MsgGot, To: m.From})
	}
}

// hear lets a message of the node's own term come.
func (n *node) hear(m api.Msg) {
	switch m.Kind {
	case api.MsgAsk:
		n.asked(m)
	case api.MsgVote:
		n.voted(m)
	case api.MsgLog:
		n.heardOf(m.From)
		n.told(m)
	case api.MsgSnap:
		n.heardOf(m.From)
		n.handed(m)
	case api.MsgGot:
		n.answered(m)
	}
}

// heardOf lets the node follow who leads.
func (n *node) heardOf(lead int) {
	n.follow(lead)
	n.Clock = 0
}

// asked lets a node that is asked for its vote answer.
func (n *node) asked(m api.Msg) {
	index, term := Last(n.Core)
	knowsAll := term < m.LogTerm || term == m.LogTerm && index <= m.Index
	yes := knowsAll && (n.Vote == nobody || n.Vote == m.From)
	if yes {
		n.Vote, n.Clock = m.From, 0
	}
	n.send(api.Msg{Kind: api.MsgVote, To: m.From, Yes: yes})
}

// voted counts a vote.
func (n *node) voted(m api.Msg) {
	if m.Yes && n.Role == api.Stands {
		n.Votes |= bit(m.From)
		n.leadIfEnough()
	}
}

// got answers who leads up to where the log is the same, or may be.
func (n *node) got(m api.Msg, yes bool, index int) {
	n.send(api.Msg{Kind: api.MsgGot, To: m.From, Yes: yes, Index: index})
}

// told lets entries of who leads come.
func (n *node) told(m api.Msg) {
	if m.Index < n.Base.Index {
		n.got(m, true, n.Commit)
		return
	}
	if term, there := n.termOf(m.Index); !there || term != m.LogTerm {
		n.got(m, false, max(min(n.last(), m.Index-1), n.Commit))
		return
	}
	if !n.layBehind(m.Index, m.Entries) {
		return
	}
	last := m.Index + len(m.Entries)
	n.Commit = max(n.Commit, min(m.Commit, last))
	n.got(m, true, last)
}

// layBehind lets entries stand behind an index, and tells whether they may.
func (n *node) layBehind(index int, entries []api.Entry) bool {
	same := n.same(index, entries)
	if same == len(entries) {
		return true
	}
	if index+same < n.Commit || index+len(entries) > api.MaxIndex {
		return false
	}
	stays, _ := n.parted(index + same)
	log := append(stays[:len(stays):len(stays)], entries[same:]...)
	if !termsMay(n.Base.Term, log, n.Term) {
		return false
	}
	n.become(n.Base, log)
	return true
}

// same is how many of some entries stand behind an index already.
func (n *node) same(index int, entries []api.Entry) int {
	for i, e := range entries {
		if has, there := entry(n.Core, index+i+1); !there || has != e {
			return i
		}
	}
	return len(entries)
}

// become lets another log stand there. What was known of others may not reach beyond it.
func (n *node) become(base api.Snap, log []api.Entry) {
	n.Base, n.Log = base, log
	n.Next = atMost(n.last()+1, n.Next)
	n.Match = atMost(n.last(), n.Match)
}

// handed lets a snapshot of who leads come.
func (n *node) handed(m api.Msg) {
	if s := m.Snap; s.Index > n.Commit && s.Term <= n.Term {
		var stays []api.Entry
		if term, there := n.termOf(s.Index); there && term == s.Term {
			_, stays = n.parted(s.Index)
		}
		n.become(s, stays)
		n.Commit = s.Index
	}
	n.got(m, true, n.Commit)
}

// answered lets an answer come to one that leads.
func (n *node) answered(m api.Msg) {
	if n.Role != api.Leads {
		return
	}
	n.Heard |= bit(m.From)
	if m.Yes {
		n.reached(m.From, m.Index)
		return
	}
	n.Next[m.From] = max(min(n.Next[m.From], m.Index+1), n.Match[m.From]+1)
	n.sendTo(m.From)
}

// reached notes up to where another one's log is the same, and sends it what is behind.
func (n *node) reached(who, index int) {
	if index > n.last() {
		return
	}
	n.Match[who] = max(n.Match[who], index)
	n.Next[who] = max(n.Next[who], index+1)
	n.agree()
	if n.Next[who] <= n.last() {
		n.sendTo(who)
	}
}
