package node

import (
	"auspice/api"
	"auspice/raft"
	"auspice/shelf"
)

// unseen sees nothing of what happened.
func unseen(api.Core) {}

// happens lets something happen to a node. What is seen of it is told to see, once it is on the disk.
func (n *Node) happens(in api.Input, see func(c api.Core)) (e api.Errno) {
	if n == nil {
		return api.ErrArg
	}
	if n.down {
		return api.ErrDown
	}
	c, sent, e := raft.Step(n.core, in)
	if e != api.OK {
		return e
	}
	told, done := n.sent, n.done
	defer func() {
		if e == api.ErrFull { // of the log's cut: what was told by then counts for nothing
			n.sent, n.done = told, done
		}
		e = n.ends(e, in.Draw)
	}()
	if e := n.become(c, sent); e != api.OK {
		return e
	}
	see(c)
	if e := n.come(); e != api.OK {
		return e
	}
	return n.cut()
}

// ends sees to an error: a node whose disk is full goes on with what is there, of any other one it is down.
func (n *Node) ends(e api.Errno, draw int) api.Errno {
	if e == api.OK || e == api.ErrFull && n.beginsAnew(draw) {
		return e
	}
	n.down = true
	return api.ErrDown
}

// beginsAnew lets a node be what its disk says, and tells whether it can be. What came to the machine is not to come, and not to be told, once more.
func (n *Node) beginsAnew(draw int) bool {
	anew, e := begun(n.disk, n.core.Me, n.mask, draw)
	if e != api.OK {
		return false
	}
	if anew.core.Base.Index <= n.core.Commit {
		anew.core.Commit, anew.machine, anew.applied = n.core.Commit, n.machine, n.applied
	}
	anew.sent, anew.done = n.sent, n.done
	*n = *anew
	return true
}

// become lets a node have another core, and tells its messages, once it is on the disk.
func (n *Node) become(c api.Core, sent []api.Msg) api.Errno {
	if e := n.put(c); e != api.OK {
		return e
	}
	n.core = c
	n.sent = append(n.sent, sent...)
	return api.OK
}

// put puts on the disk what is new of a core: a vote ahead of entries of its term, a snapshot ahead of the end of what it stands for.
func (n *Node) put(c api.Core) api.Errno {
	if c.Term != n.core.Term || c.Vote != n.core.Vote {
		if e := shelf.SaveVote(n.disk, api.Vote{Term: c.Term, For: c.Vote}); e != api.OK {
			return e
		}
	}
	if c.Base.Index == n.core.Base.Index {
		return n.putLog(c)
	}
	if e := n.putBase(c.Base); e != api.OK {
		return e
	}
	if e := n.putLog(c); e != api.OK {
		return e
	}
	return n.log.Drop(c.Base.Index + 1)
}

// putBase puts a snapshot on the disk. A log that is not the one in whose place it stands goes.
func (n *Node) putBase(base api.Snap) api.Errno {
	if e := shelf.SaveSnap(n.disk, base); e != api.OK {
		return e
	}
	text, there := n.log.Get(base.Index)
	if x, ok := read(text); there && ok && x.Term == base.Term {
		return api.OK
	}
	return n.log.Reset(base.Index + 1)
}

// putLog puts a core's log on the disk, from the first entry on that is not there, or another one.
func (n *Node) putLog(c api.Core) api.Errno {
	at, texts := c.Base.Index+1, []string(nil)
	for _, x := range c.Log {
		text := written(x)
		if has, there := n.log.Get(at); len(texts) == 0 && there && has == text {
			at++
			continue
		}
		texts = append(texts, text)
	}
	return n.log.Append(at, texts) // of none at its end nothing comes
}

// come lets what is agreed on come to the machine. A snapshot that was sent may say none: then nothing can come any more.
func (n *Node) come() api.Errno {
	if base := n.core.Base; n.applied < base.Index {
		m, e := machineOf(base)
		if e != api.OK {
			return e
		}
		n.machine, n.applied = m, base.Index
	}
	for n.applied < n.core.Commit {
		n.applied++
		if x, _ := raft.At(n.core, n.applied); x.Kind == api.EntryText {
			n.done = append(n.done, api.Done{Index: n.applied, Term: x.Term, R: n.machine.Apply(n.applied, x.Text)})
		}
	}
	return api.OK
}

// cut lets the machine stand in the place of a log that is long.
func (n *Node) cut() api.Errno {
	if n.applied-n.core.Base.Index < Long {
		return api.OK
	}
	c, sent, e := raft.Step(n.core, api.Input{Kind: api.InCut, Index: n.applied, Text: n.machine.Save()})
	if e != api.OK {
		return e
	}
	return n.become(c, sent)
}
