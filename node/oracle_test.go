package node_test

import (
	"fmt"
	"testing"

	"auspice/api"
	"auspice/disk"
	"auspice/node"
	"auspice/raft"
	"auspice/sm"
)

// outcome is what is to become of a node to which something happens, as the chapter tells it: an error of raft; else its state ahead of the log being cut, and behind it, and what is told.
type outcome struct {
	e    api.Errno
	mid  state
	end  state
	cut  bool
	sent []api.Msg
	done []api.Done
	last [2]int // the last index, and its term
}

// becomes is the outcome of a state and something that happens. Of a snapshot that says none, mid is down.
func becomes(t *testing.T, s state, in api.Input) (o outcome) {
	t.Helper()
	c, sent, e := raft.Step(s.core, in)
	if e != api.OK {
		return outcome{e: e}
	}
	o.sent = sent
	o.last[0], o.last[1] = raft.Last(c)
	m, e := sm.Load(s.saved)
	ok(t, e)
	applied := s.applied
	if applied < c.Base.Index {
		m = sm.New()
		if c.Base.Text != "" {
			m, e = sm.Load(c.Base.Text)
		}
		if e != api.OK || m.Index() > c.Base.Index {
			o.mid = state{c, s.saved, s.applied, true}
			o.end = o.mid
			return o
		}
		applied = c.Base.Index
	}
	for applied < c.Commit {
		applied++
		x, there := raft.At(c, applied)
		if !there {
			t.Fatalf("%d is agreed on, but not there: %+v", applied, c)
		}
		if x.Kind == api.EntryText {
			o.done = append(o.done, api.Done{Index: applied, Term: x.Term, R: m.Apply(applied, x.Text)})
		}
	}
	o.mid = state{c, m.Save(), applied, false}
	o.end = o.mid
	if o.cut = applied >= c.Base.Index+24; o.cut {
		o.end.core, _, e = raft.Step(c, api.Input{Kind: api.InCut, Index: applied, Text: m.Save()})
		ok(t, e)
	}
	return o
}

// do lets something happen to a node. Of what is laid it fails, if the index and the term are not those that are to be, or none beside an error.
func do(t *testing.T, n *node.Node, in api.Input, o outcome) api.Errno {
	t.Helper()
	switch in.Kind {
	case api.InTick:
		return n.Tick(in.Draw)
	case api.InMsg:
		return n.Take(in.Msg)
	case api.InMask:
		return n.Change(in.Mask)
	}
	index, term, e := n.Lay(in.Text)
	want := o.last
	if e != api.OK {
		want = [2]int{}
	}
	if [2]int{index, term} != want {
		t.Fatalf("Lay: %d, %d, %d, want %v", index, term, e, want)
	}
	return e
}

// how tells what became of a node.
type how int

const (
	well    how = iota // all is as it is to be
	refuses            // an error of raft
	early              // the disk did not take what is new
	late               // the disk did not take the cut
)

// happens lets something happen to a node on a disk, and holds what comes of it against what is to be. The mask is who was a member at first.
func happens(t *testing.T, d *disk.Disk, n *node.Node, mask int, in api.Input) how {
	t.Helper()
	h, _ := comesOf(t, d, n, mask, in)
	return h
}

// comesOf is what came of something that happens to a node, when that was held against what is to be.
func comesOf(t *testing.T, d *disk.Disk, n *node.Node, mask int, in api.Input) (how, outcome) {
	t.Helper()
	what := fmt.Sprintf("%.300s", fmt.Sprintf("%+v", in))
	tells(t, what, n, nil)
	s := stateOf(n)
	calls := d.Calls()
	o := becomes(t, s, in)
	e := do(t, n, in, o)
	switch {
	case o.e != api.OK:
		is(t, what, e, o.e)
		stays(t, what, n, s)
		if d.Calls() != calls {
			t.Fatalf("%s: the disk was called", what)
		}
		return refuses, o
	case e == api.ErrFull:
		h := full(t, what, d, n, mask, s, o, in.Draw)
		o.sent, o.done = nil, nil // nothing is told
		return h, o
	case e == api.OK || o.mid.down:
		if o.mid.down {
			is(t, what, e, api.ErrDown)
		}
		told(t, what, n, o.end, o)
		if !isNew(s.core, o.end.core) && d.Calls() != calls {
			t.Fatalf("%s: the disk was called without anything new", what)
		}
		kept(t, d, n, mask)
		return well, o
	}
	is(t, what, e, api.ErrDown)
	if o.cut && alike(n.Core(), o.mid.core) {
		o.mid.down = true
		told(t, what, n, o.mid, o)
		return late, o
	}
	s.down = true
	stays(t, what, n, s)
	return early, o
}

// isNew tells whether a core has something that is to be on the disk, and that another one has not.
func isNew(old, c api.Core) bool {
	return c.Term != old.Term || c.Vote != old.Vote || !alike(logged(c), logged(old))
}

// full fails, if a node whose disk is full tells anything, or is not one that begins anew of what is there. What came to its machine ahead of a cut that failed stays so.
func full(t *testing.T, what string, d *disk.Disk, n *node.Node, mask int, s state, o outcome, draw int) how {
	t.Helper()
	kept(t, d, n, mask)
	h := early
	if o.cut && !isNew(o.mid.core, n.Core()) {
		s, h = o.mid, late
	}
	s.core = anew(t, d, s.core.Me, mask, draw, s.core.Commit)
	stays(t, what, n, s)
	return h
}

// told fails, if a node's state is not that, or it did not tell what it is to tell.
func told(t *testing.T, what string, n *node.Node, s state, o outcome) {
	t.Helper()
	tells(t, what, n, o.sent, o.done...)
	stays(t, what, n, s)
}

// logged is what a core says of its log.
func logged(c api.Core) api.Core { return api.Core{Base: c.Base, Log: c.Log} }
