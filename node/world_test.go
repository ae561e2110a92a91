package node_test

import (
	"math/rand"
	"slices"
	"testing"

	"auspice/api"
	"auspice/disk"
	"auspice/node"
	"auspice/raft"
	"auspice/sm"
)

// world is nodes on disks whose power fails, and that are full, and whose messages are lost, doubled and late; and what has been seen of them so far.
type world struct {
	t       *testing.T
	r       *rand.Rand
	first   int // the members at first
	disks   []*disk.Disk
	nodes   []*node.Node
	up      []bool
	trips   []bool // whether the power is to fail
	votes   []api.Vote
	wire    []api.Msg
	leads   map[int]int // by terms
	agreed  []api.Entry // of the indexes from 1 on
	machine *sm.Machine // to which all of them came
	replies []api.Reply // of it, to each of them
	saved   []string    // its text behind as many of them
	stamp   int
	hows    map[how]int
	sent    int // how many snapshots were sent
}

// begun is a world of n nodes.
func begun(t *testing.T, r *rand.Rand, n int) *world {
	w := &world{t: t, r: r, first: 1<<n - 1, up: make([]bool, n), trips: make([]bool, n), leads: map[int]int{}, machine: sm.New(), hows: map[how]int{}}
	w.saved = []string{w.machine.Save()}
	for i := range n {
		w.disks = append(w.disks, disk.New())
		w.nodes = append(w.nodes, opened(t, w.disks[i], i, w.first, r.Intn(100)))
		w.votes = append(w.votes, api.Vote{For: -1})
		w.up[i] = true
	}
	return w
}

// step lets something happen to a node, and holds what comes of it against what has been seen.
func (w *world) step(i int, in api.Input) (how, outcome) {
	w.t.Helper()
	h, o := comesOf(w.t, w.disks[i], w.nodes[i], w.first, in)
	w.hows[h]++
	w.up[i] = !w.nodes[i].Down()
	if h == well || h == late {
		w.notes(o.mid.core)
		w.done(o.done)
		for _, m := range o.sent {
			if m.Kind == api.MsgSnap {
				w.sent++
			}
			if m.To < len(w.nodes) {
				w.wire = append(w.wire, m)
			}
		}
	}
	w.sees(i)
	return h, o
}

// sees fails, if a node takes back a vote that it told of, is on the way elsewhere than all, or its machine is not the one machine.
func (w *world) sees(i int) {
	w.t.Helper()
	n, v := w.nodes[i], w.votes[i]
	c := n.Core()
	if c.Term < v.Term || c.Term == v.Term && v.For != -1 && c.Vote != v.For {
		w.t.Fatalf("the vote %v is taken back: %+v", v, c)
	}
	if w.up[i] {
		w.votes[i] = api.Vote{Term: c.Term, For: c.Vote}
		w.has(c)
		if n.Applied() != c.Commit {
			w.t.Fatalf("%d came, of %d", n.Applied(), c.Commit)
		}
	}
	if n.Applied() > len(w.agreed) || n.Saved() != w.saved[n.Applied()] {
		w.t.Fatalf("the machine of %d is another one behind %d, of %d", i, n.Applied(), len(w.agreed))
	}
}

// notes notes what a node is agreed on, and who leads.
func (w *world) notes(c api.Core) {
	w.t.Helper()
	for i := len(w.agreed) + 1; i <= c.Commit; i++ {
		x := atOf(c, i)
		if x.Kind < 0 || c.Term < x.Term {
			w.t.Fatalf("%d is agreed on, and not there: %+v", i, c)
		}
		w.agreed = append(w.agreed, x)
		reply := api.Reply{}
		if x.Kind == api.EntryText {
			reply = w.machine.Apply(i, x.Text)
		}
		w.replies = append(w.replies, reply)
		w.saved = append(w.saved, w.machine.Save())
	}
	w.has(c)
	if c.Role != api.Leads {
		return
	}
	if who, there := w.leads[c.Term]; there && who != c.Me {
		w.t.Fatalf("%d and %d lead in the term %d", who, c.Me, c.Term)
	}
	if _, there := w.leads[c.Term]; !there {
		for i := range w.agreed {
			if x := atOf(c, i+1); i >= c.Base.Index && x != w.agreed[i] {
				w.t.Fatalf("%d leads, without %d", c.Me, i+1)
			}
		}
	}
	w.leads[c.Term] = c.Me
}

// has fails, if a core is agreed on anything else than all.
func (w *world) has(c api.Core) {
	w.t.Helper()
	if c.Commit > len(w.agreed) {
		w.t.Fatalf("%d are agreed on, of %d", c.Commit, len(w.agreed))
	}
	for i := c.Base.Index; i < c.Commit; i++ {
		if x := atOf(c, i+1); x != w.agreed[i] {
			w.t.Fatalf("%v is agreed on as %d, but %d has %v", w.agreed[i], i+1, c.Me, x)
		}
	}
	want := api.Snap{Index: c.Base.Index, Mask: w.first}
	for _, x := range w.agreed[:c.Base.Index] {
		want.Term, want.Text = x.Term, w.saved[c.Base.Index]
		if x.Kind == api.EntryMask {
			want.Mask = x.Mask
		}
	}
	if c.Base != want {
		w.t.Fatalf("the snapshot of %d is %v, want %v", c.Me, c.Base, want)
	}
}

// done fails, if what is told as done is not what the one machine answered.
func (w *world) done(l []api.Done) {
	w.t.Helper()
	for _, x := range l {
		if x.Term != w.agreed[x.Index-1].Term || x.R != w.replies[x.Index-1] {
			w.t.Fatalf("%v is told, but %d, %v was agreed on, and %v answered", x, x.Index, w.agreed[x.Index-1], w.replies[x.Index-1])
		}
	}
}

// stops lets the power of a node fail; starts lets it be opened anew.
func (w *world) stops(i int) {
	w.disks[i].Fail(w.r.Intn(600))
	w.up[i] = false
}

func (w *world) starts(i int) {
	w.t.Helper()
	w.disks[i].Wake()
	n, e := node.Open(w.disks[i], i, w.first, w.r.Intn(100))
	if e == api.ErrDown && w.trips[i] {
		return // the power failed at a call of Open
	}
	ok(w.t, e)
	w.nodes[i], w.up[i], w.trips[i] = n, true, w.trips[i] && !w.disks[i].Down()
	kept(w.t, w.disks[i], n, w.first)
	tells(w.t, "opened anew", n, nil)
	w.sees(i)
}

// deliver lets the k-th message under way come, or be lost, and leaves it under way, if it is to come once more.
func (w *world) deliver(k int, lost, again bool) {
	w.t.Helper()
	m := w.wire[k]
	if !again {
		w.wire = slices.Delete(w.wire, k, k+1)
	}
	if !lost && w.up[m.To] {
		w.step(m.To, takes(m))
	}
}

// command is a text that may be laid.
func (w *world) command() string {
	var l []api.Session
	if l = w.machine.Sessions(); len(l) == 0 || w.r.Intn(12) == 0 {
		return open()
	}
	s := l[w.r.Intn(len(l))]
	w.stamp += w.r.Intn(3)
	switch w.r.Intn(12) {
	case 0:
		return add(string(rune('p'+w.r.Intn(3))), []string{"a ; b", "a ; !c ; b within 9", "(a | b)+ ; c"}[w.r.Intn(3)])
	case 1:
		return command(api.Cmd{Kind: api.CmdClose, ID: s.ID})
	case 2:
		return command(api.Cmd{Kind: api.CmdDrop, Name: "q"})
	case 3:
		return forget("p", w.r.Intn(9))
	case 4:
		return "nothing"
	case 5:
		return big(w.r.Intn(700))
	}
	return event(s.ID, max(s.Seq+w.r.Intn(3), 1), max(w.stamp-w.r.Intn(2), 0), string(rune('a'+w.r.Intn(3))))
}

// habits are how often what happens in a world, of 1000.
type habits struct{ lost, again, stop, trip, start, room, text, mask int }

// chance tells whether something of n in 1000 happens now.
func (w *world) chance(n int) bool { return w.r.Intn(1000) < n }

// goesOn lets much happen.
func (w *world) goesOn(h habits, acts int) {
	w.t.Helper()
	for range acts {
		i := w.r.Intn(len(w.nodes))
		if w.r.Intn(3) == 0 && w.up[i] {
			w.step(i, api.Input{Draw: w.r.Intn(100)})
		}
		for range 2 {
			if n := len(w.wire); n > 0 {
				w.deliver(w.r.Intn(min(n, 8)), w.chance(h.lost), w.chance(h.again))
			}
		}
		if n := len(w.wire); n > 100 {
			w.wire = slices.Delete(w.wire, 0, n-50)
		}
		w.perhaps(h)
	}
}

// perhaps lets one thing or another happen, as habits are.
func (w *world) perhaps(h habits) {
	w.t.Helper()
	i, j := w.r.Intn(len(w.nodes)), w.r.Intn(len(w.nodes))
	d := w.disks[i]
	if w.chance(h.trip) {
		d.Trip(1+w.r.Intn(12), w.r.Intn(900))
		w.trips[i] = true
	}
	if !w.up[i] {
		if w.chance(h.start) {
			w.starts(i)
		}
		return
	}
	if w.chance(h.room) {
		d.Room(d.Used() + w.r.Intn(900))
	}
	if w.chance(30) {
		d.Room(-1)
	}
	if w.chance(h.stop) {
		w.stops(i)
		return
	}
	if w.chance(h.text) {
		w.step(i, lay(w.command()))
	}
	if w.up[i] && w.chance(h.mask) {
		mask, _ := raft.Members(w.nodes[i].Core())
		w.step(i, api.Input{Kind: api.InMask, Mask: mask ^ 1<<j})
	}
}

// round is a tick of all nodes, behind which all messages come.
func (w *world) round() {
	w.t.Helper()
	for i := range w.nodes {
		w.step(i, api.Input{Draw: w.r.Intn(1000)})
	}
	for len(w.wire) > 0 {
		w.deliver(0, false, false)
	}
}

// lead is the one that leads, -1 if there is none, or more than one.
func (w *world) lead() int {
	lead := -1
	for i, n := range w.nodes {
		if n.Core().Role == api.Leads {
			if lead >= 0 {
				return -1
			}
			lead = i
		}
	}
	return lead
}

// heals lets all nodes be up, with room, and all messages come, and fails, if within some ticks not one leads, or what is laid there is not done.
func (w *world) heals(ticks int) {
	w.t.Helper()
	for i, d := range w.disks {
		d.Room(-1)
		if w.trips[i] || !w.up[i] {
			d.Wake()
			d.Fail(w.r.Intn(600)) // no trip is left then, one that was set while it was down neither
			w.trips[i] = false
			w.starts(i)
		}
	}
	lead := -1
	for k := 0; lead < 0; k++ {
		if k == ticks {
			w.t.Fatalf("nobody leads in %d ticks", ticks)
		}
		w.round() // ahead of the first look, too: who leads may be one of a past term
		lead = w.lead()
	}
	h, o := w.step(lead, lay(w.command()))
	if h != well {
		w.t.Fatalf("what is laid at one that leads goes not well, but %d", h)
	}
	for k := 0; !w.isDone(o.last); k++ {
		if k == 20 {
			w.t.Fatalf("%v is not done", o.last)
		}
		w.round()
	}
}

// isDone tells whether an entry came to all members.
func (w *world) isDone(last [2]int) bool {
	w.t.Helper()
	if len(w.agreed) < last[0] || w.agreed[last[0]-1].Term != last[1] {
		return false
	}
	mask := w.first
	for _, x := range w.agreed {
		if x.Kind == api.EntryMask {
			mask = x.Mask
		}
	}
	for i, n := range w.nodes {
		if mask>>i&1 == 1 && n.Applied() < last[0] {
			return false
		}
	}
	return true
}

// worlds are habits of worlds, from quiet to rough.
func worlds() []habits {
	return []habits{
		{text: 300},
		{text: 300, room: 100},
		{text: 300, stop: 10, start: 100},
		{text: 300, trip: 20, start: 100},
		{text: 200, mask: 30, stop: 5, start: 50},
		{lost: 50, again: 50, stop: 5, trip: 5, start: 50, room: 5, text: 200},
		{lost: 200, again: 200, stop: 5, trip: 10, start: 50, room: 10, text: 200, mask: 20},
		{lost: 20, again: 20, trip: 10, start: 100, room: 30, text: 300, mask: 5},
	}
}

// 20.4 and 20.5: whatever happens, and when it does no more.
func TestWorlds(t *testing.T) {
	agreed, snaps, bases := 0, 0, 0
	hows := map[how]int{}
	for seed := range 112 {
		r := rand.New(rand.NewSource(int64(seed)))
		h := worlds()[seed%len(worlds())]
		w := begun(t, r, 1+seed/8%7)
		ticks := 120
		if h.mask > 0 {
			// A vote may be needed of one whose own members, being old ones, do not name who asks for it.
			ticks = 1000
		}
		for range 3 {
			w.goesOn(h, 250)
			w.heals(ticks)
		}
		agreed, snaps = agreed+len(w.agreed), snaps+w.sent
		for x, n := range w.hows {
			hows[x] += n
		}
		for _, n := range w.nodes {
			bases += min(1, n.Core().Base.Index)
		}
	}
	if agreed < 5000 || snaps < 100 || bases < 300 || hows[early] < 300 || hows[late] < 10 {
		t.Error("too little happened: ", agreed, " entries, ", snaps, " snapshots sent, ", bases, " logs cut, ", hows)
	}
}
