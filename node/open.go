package node

import (
	"auspice/api"
	"auspice/disk"
	"auspice/raft"
	"auspice/seglog"
	"auspice/shelf"
	"auspice/sm"
)

const masks = 1 << api.MaxNodes // how many there are

// files is what the files of a disk say.
type files struct {
	vote    api.Vote
	base    api.Snap
	log     *seglog.Log
	entries []api.Entry // all of the log, those that the snapshot stands for among them
}

// Open is the node of a disk.
func Open(d *disk.Disk, me, mask, draw int) (*Node, api.Errno) {
	if d == nil || me < 0 || me >= api.MaxNodes || mask < 1 || mask >= masks {
		return nil, api.ErrArg
	}
	return begun(d, me, mask, draw)
}

// begun is the node that a disk says. Nothing is reset ahead of all else being well, so that files that are not a node's stay as they are.
func begun(d *disk.Disk, me, mask, draw int) (*Node, api.Errno) {
	f, e := loaded(d, mask)
	if e != api.OK {
		return nil, e
	}
	if f.isStale() && f.base.Index >= api.MaxIndex || f.log.First() > f.base.Index+1 {
		return nil, api.ErrForm
	}
	core, e := raft.New(me, f.vote, f.base, f.behind(), draw)
	if e != api.OK {
		return nil, api.ErrForm
	}
	machine, e := machineOf(f.base)
	if e != api.OK {
		return nil, e
	}
	if f.isStale() {
		if e := f.log.Reset(f.base.Index + 1); e != api.OK {
			return nil, e
		}
	}
	return &Node{disk: d, mask: mask, log: f.log, core: core, machine: machine, applied: f.base.Index}, api.OK
}

// loaded is what the files of a disk say.
func loaded(d *disk.Disk, mask int) (f files, e api.Errno) {
	if f.vote, e = shelf.LoadVote(d); e != api.OK {
		return files{}, e
	}
	base, there, e := shelf.LoadSnap(d)
	if e != api.OK {
		return files{}, e
	}
	if !there {
		base = api.Snap{Mask: mask}
	}
	f.base = base
	if f.log, e = seglog.Open(d); e != api.OK {
		return files{}, e
	}
	for i := f.log.First(); i < f.log.Next(); i++ {
		text, _ := f.log.Get(i)
		x, ok := read(text)
		if !ok {
			return files{}, api.ErrForm
		}
		f.entries = append(f.entries, x)
	}
	return f, api.OK
}

// isStale tells whether the log is another one than that in whose place the snapshot stands.
func (f files) isStale() bool {
	at := f.base.Index - f.log.First()
	if at < 0 {
		return false
	}
	return at >= len(f.entries) || f.entries[at].Term != f.base.Term
}

// behind are the entries behind the snapshot.
func (f files) behind() []api.Entry {
	if f.isStale() {
		return nil
	}
	return f.entries[f.base.Index+1-f.log.First():]
}

// machineOf is the machine that a snapshot says.
func machineOf(base api.Snap) (*sm.Machine, api.Errno) {
	if base.Text == "" {
		return sm.New(), api.OK
	}
	m, e := sm.Load(base.Text)
	if e != api.OK || m.Index() > base.Index {
		return nil, api.ErrForm
	}
	return m, api.OK
}
