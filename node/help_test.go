package node_test

import (
	"fmt"
	"maps"
	"reflect"
	"slices"
	"strings"
	"testing"

	"auspice/api"
	"auspice/bits"
	"auspice/crc"
	"auspice/disk"
	"auspice/node"
	"auspice/raft"
	"auspice/seglog"
	"auspice/shelf"
	"auspice/sm"
)

// opened is the node of a disk.
func opened(t *testing.T, d *disk.Disk, me, mask, draw int) *node.Node {
	t.Helper()
	n, e := node.Open(d, me, mask, draw)
	if e != api.OK || n == nil {
		t.Fatalf("Open: %v, %d", n, e)
	}
	return n
}

// alone is a node that has no others, on a disk of its own.
func alone(t *testing.T) (*disk.Disk, *node.Node) {
	t.Helper()
	d := disk.New()
	return d, opened(t, d, 0, 1, 0)
}

// leader is a node alone that leads, with a Noop agreed on.
func leader(t *testing.T) (*disk.Disk, *node.Node) {
	t.Helper()
	d, n := alone(t)
	leads(t, n)
	n.Sent()
	return d, n
}

// leads lets ticks pass until a node leads.
func leads(t *testing.T, n *node.Node) {
	t.Helper()
	for range 20 {
		if n.Core().Role == api.Leads {
			return
		}
		ok(t, n.Tick(0))
	}
	t.Fatalf("it does not lead: %+v", n.Core())
}

// ok fails, if there is an error.
func ok(t *testing.T, e api.Errno) {
	t.Helper()
	if e != api.OK {
		t.Fatalf("error %d", e)
	}
}

// is fails, if an error is not the one that is wanted.
func is(t *testing.T, what string, e, want api.Errno) {
	t.Helper()
	if e != want {
		t.Fatalf("%s: error %d, want %d", what, e, want)
	}
}

// command is a command's text.
func command(c api.Cmd) string {
	s, e := sm.Write(c)
	if e != api.OK {
		panic(fmt.Sprint(c, " may not be"))
	}
	return s
}

// open, event, add and forget are texts of commands.
func open() string { return command(api.Cmd{Kind: api.CmdOpen}) }

func event(session, seq, stamp int, kind string) string {
	return command(api.Cmd{Kind: api.CmdEvent, E: api.Event{Session: session, Seq: seq, Stamp: stamp, Kind: kind}})
}

func add(name, text string) string {
	return command(api.Cmd{Kind: api.CmdAdd, Name: name, Text: text})
}

func forget(name string, n int) string {
	return command(api.Cmd{Kind: api.CmdForget, Name: name, N: n})
}

// text is an entry's text, as the chapter tells it.
func text(x api.Entry) string {
	return bits.Num(uint64(x.Term)) + bits.Num(uint64(x.Kind)) + bits.Num(uint64(x.Mask)) + bits.Text(x.Text)
}

// texts are texts of entries.
func texts(log []api.Entry) (l []string) {
	for _, x := range log {
		l = append(l, text(x))
	}
	return l
}

// noop, says and members are entries.
func noop(term int) api.Entry { return api.Entry{Term: term, Kind: api.EntryNoop} }
func says(term int, s string) api.Entry {
	return api.Entry{Term: term, Kind: api.EntryText, Text: s}
}
func members(term, mask int) api.Entry {
	return api.Entry{Term: term, Kind: api.EntryMask, Mask: mask}
}

// like are so many Noops of a term.
func like(term, n int) []api.Entry { return slices.Repeat([]api.Entry{noop(term)}, n) }

// said is what a disk is to say: a vote, a snapshot (if its Mask is not 0), and a log from an index on (none, if that is 0).
type said struct {
	vote  api.Vote
	base  api.Snap
	first int
	log   []api.Entry
}

// disk is a disk that says it.
func (s said) disk(t *testing.T) *disk.Disk {
	t.Helper()
	d := disk.New()
	ok(t, shelf.SaveVote(d, s.vote))
	if s.base.Mask != 0 {
		ok(t, shelf.SaveSnap(d, s.base))
	}
	if s.first > 0 {
		logs(t, d, s.first, texts(s.log))
	}
	return d
}

// logs lays a log of these texts on a disk.
func logs(t *testing.T, d *disk.Disk, first int, texts []string) {
	t.Helper()
	l, e := seglog.Open(d)
	ok(t, e)
	ok(t, l.Reset(first))
	ok(t, l.Append(first, texts))
}

// files are the bytes of all files of a disk, by their names.
func files(d *disk.Disk) map[string]string {
	l := map[string]string{}
	for _, name := range d.Names() {
		l[name], _ = d.Read(name)
	}
	return l
}

// copied is a disk with the same files, all of them sure.
func copied(t *testing.T, d *disk.Disk) *disk.Disk {
	t.Helper()
	c := disk.New()
	for name, s := range files(d) {
		ok(t, c.Put(name, 0, s))
	}
	ok(t, c.Sync())
	return c
}

// onDisk is the core that a disk says: its Vote, Base and Log; of a disk without a snapshot these are the members. That fails, if its log begins too late.
func onDisk(t *testing.T, d *disk.Disk, mask int) (api.Vote, api.Snap, []api.Entry) {
	t.Helper()
	c := copied(t, d)
	v, e := shelf.LoadVote(c)
	ok(t, e)
	base, there, e := shelf.LoadSnap(c)
	ok(t, e)
	if !there {
		base = api.Snap{Mask: mask}
	}
	l, e := seglog.Open(c)
	ok(t, e)
	if l.First() > base.Index+1 || l.Next() <= base.Index {
		t.Fatalf("the log on the disk is from %d to %d, the snapshot of %d", l.First(), l.Next(), base.Index)
	}
	var log []api.Entry
	for i := base.Index + 1; i < l.Next(); i++ {
		s, _ := l.Get(i)
		log = append(log, entry(t, s))
	}
	return v, base, log
}

// entry is the entry of a text.
func entry(t *testing.T, s string) api.Entry {
	t.Helper()
	tape := bits.At(s)
	x := api.Entry{Term: int(tape.Num()), Kind: int(tape.Num()), Mask: int(tape.Num()), Text: tape.Text(api.MaxCmd)}
	if tape.End() != api.OK {
		t.Fatalf("%x is no entry", s)
	}
	return x
}

// kept fails, if a disk does not say, and would not after a loss of power, what a node's core is.
func kept(t *testing.T, d *disk.Disk, n *node.Node, mask int) {
	t.Helper()
	if d.Waits() != 0 {
		t.Fatalf("%d changes are not sure", d.Waits())
	}
	c := n.Core()
	v, base, log := onDisk(t, d, mask)
	if v != (api.Vote{Term: c.Term, For: c.Vote}) || base != c.Base || !slices.Equal(log, c.Log) {
		t.Fatalf("the disk says %v, %.100v, %.300v, but the core is %.500v", v, base, log, c)
	}
}

// anew is the core that raft.New makes of what a disk says, agreed on up to an index.
func anew(t *testing.T, d *disk.Disk, me, mask, draw, commit int) api.Core {
	t.Helper()
	v, base, log := onDisk(t, d, mask)
	c, e := raft.New(me, v, base, log, draw)
	ok(t, e)
	c.Commit = max(c.Commit, commit)
	return c
}

// same fails, if two cores are not the same. Of their logs nil ones stand for empty ones.
func same(t *testing.T, what string, c, want api.Core) {
	t.Helper()
	if !alike(c, want) {
		t.Fatalf("%s:\n got %.900s\nwant %.900s", what, fmt.Sprintf("%+v", c), fmt.Sprintf("%+v", want))
	}
}

// alike tells whether two cores are the same.
func alike(c, d api.Core) bool {
	if len(c.Log)+len(d.Log) == 0 {
		c.Log, d.Log = nil, nil
	}
	return reflect.DeepEqual(c, d)
}

// tells fails, if what a node tells since the last call are not these messages, and what came not these commands.
func tells(t *testing.T, what string, n *node.Node, sent []api.Msg, done ...api.Done) {
	t.Helper()
	if l := n.Sent(); !sameMessages(l, sent) {
		t.Fatalf("%s: %.300v are sent, want %.300v", what, l, sent)
	}
	if l := n.Done(); !slices.Equal(l, done) {
		t.Fatalf("%s: %v are done, want %v", what, l, done)
	}
}

// sameMessages tells whether two lists of messages are the same.
func sameMessages(l, k []api.Msg) bool {
	return slices.EqualFunc(l, k, func(a, b api.Msg) bool {
		if len(a.Entries)+len(b.Entries) == 0 {
			a.Entries, b.Entries = nil, nil
		}
		return reflect.DeepEqual(a, b)
	})
}

// state is all that a node tells, but for what was sent and done.
type state struct {
	core    api.Core
	saved   string
	applied int
	down    bool
}

// stateOf is a node's state.
func stateOf(n *node.Node) state { return state{n.Core(), n.Saved(), n.Applied(), n.Down()} }

// stays fails, if a node's state is another one, or it told something.
func stays(t *testing.T, what string, n *node.Node, s state) {
	t.Helper()
	same(t, what, n.Core(), s.core)
	if n.Saved() != s.saved || n.Applied() != s.applied || n.Down() != s.down {
		t.Fatalf("%s: Applied %d, Down %v, want %d, %v; the machine is another one: %v", what, n.Applied(), n.Down(), s.applied, s.down, n.Saved() != s.saved)
	}
	tells(t, what, n, nil)
}

// machine is a machine to which texts came, from an index on.
func machine(first int, texts ...string) *sm.Machine {
	m := sm.New()
	for i, s := range texts {
		m.Apply(first+i, s)
	}
	return m
}

// pack is the pack of a body.
func pack(t *testing.T, body string) string {
	t.Helper()
	s, e := crc.Pack(body)
	ok(t, e)
	return s
}

// puts lets a file of a disk have these bytes, and is the disk.
func puts(t *testing.T, d *disk.Disk, name, s string) *disk.Disk {
	t.Helper()
	d.Drop(name)
	ok(t, d.Put(name, 0, s))
	ok(t, d.Sync())
	return d
}

// unchanged fails, if the files of a disk are others than they were.
func unchanged(t *testing.T, what string, d *disk.Disk, were map[string]string) {
	t.Helper()
	if now := files(d); !maps.Equal(now, were) || d.Waits() != 0 {
		t.Fatalf("%s: the files are %.300q, want %.300q; %d changes are not sure", what, now, were, d.Waits())
	}
}

// big is so many bytes.
func big(n int) string { return strings.Repeat("x", n) }
