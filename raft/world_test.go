package raft_test

import (
	"fmt"
	"hash/fnv"
	"math/rand"
	"slices"
	"testing"

	"auspice/api"
	"auspice/council"
	"auspice/raft"
)

// world is nodes whose messages are lost, doubled and late, and that stop and begin anew of what they keep; and what has been seen of them so far.
type world struct {
	t      *testing.T
	r      *rand.Rand
	cores  []api.Core
	up     []bool
	cut    map[[2]int]bool // who does not reach whom
	wire   []api.Msg
	leads  map[int]int // by terms
	agreed []api.Entry // of the indexes from 1 on
	sums   []string    // of as many of them
	first  int         // the members at first
	laid   int         // how many texts
}

// begin is a world of n nodes, of which some are members.
func begin(t *testing.T, r *rand.Rand, n, members int) *world {
	w := &world{t: t, r: r, up: make([]bool, n), cut: map[[2]int]bool{}, leads: map[int]int{}, sums: []string{""}, first: members}
	for i := range n {
		c, e := raft.New(i, api.Vote{For: -1}, api.Snap{Mask: members}, nil, r.Intn(100))
		if e != api.OK {
			t.Fatalf("New: %v", e)
		}
		w.cores, w.up[i] = append(w.cores, c), true
	}
	return w
}

// step lets something happen to a node, and holds what comes of it against what has been seen.
func (w *world) step(i int, x api.Input) api.Errno {
	w.t.Helper()
	c := w.cores[i]
	d, sent, e := raft.Step(c, x)
	if e != api.OK {
		if x.Kind == api.InTick || x.Kind == api.InMsg {
			w.t.Fatalf("%v, at %+v of %+v", e, x, c)
		}
		return e
	}
	w.cores[i] = d
	w.stays(c, d)
	w.notes(c, d)
	for _, m := range sent {
		if m.To < len(w.cores) {
			w.wire = append(w.wire, m)
		}
	}
	return api.OK
}

// stays fails, if a node takes back a vote, a term, or what it is agreed on.
func (w *world) stays(c, d api.Core) {
	w.t.Helper()
	if d.Term < c.Term || d.Term == c.Term && c.Vote != -1 && d.Vote != c.Vote {
		w.t.Fatalf("a vote is taken back: %+v, then %+v", c, d)
	}
	if d.Commit < c.Commit || d.Base.Index < c.Base.Index {
		w.t.Fatalf("what is agreed on is taken back: %+v, then %+v", c, d)
	}
}

// notes notes what a node is agreed on, and who leads, and fails, if that is not what it may be.
func (w *world) notes(c, d api.Core) {
	w.t.Helper()
	for i := len(w.agreed) + 1; i <= d.Commit; i++ {
		e, ok := raft.At(d, i)
		if !ok || c.Role != api.Leads && d.Role != api.Leads {
			w.t.Fatalf("%d is agreed on at one that does not lead: %+v", i, d)
		}
		w.agreed = append(w.agreed, e)
		w.sums = append(w.sums, sum(w.sums[i-1], e))
		for _, l := range w.cores {
			if l.Role == api.Leads && l.Term > d.Term {
				w.has(l, i)
			}
		}
	}
	w.isBase(d.Base)
	for i := d.Base.Index + 1; i <= d.Commit; i++ {
		w.has(d, i)
	}
	if d.Role != api.Leads || c.Role == api.Leads && c.Term == d.Term {
		return
	}
	if who, there := w.leads[d.Term]; there && who != d.Me {
		w.t.Fatalf("%d and %d lead in the term %d", who, d.Me, d.Term)
	}
	w.leads[d.Term] = d.Me
	for i := range w.agreed {
		w.has(d, i+1)
	}
}

// has fails, if a node has not what is agreed on of an index.
func (w *world) has(c api.Core, i int) {
	w.t.Helper()
	if i <= c.Base.Index {
		return
	}
	if e, ok := raft.At(c, i); !ok || e != w.agreed[i-1] {
		w.t.Fatalf("%v is agreed on as %d, but %d has %v, %v: %+v", w.agreed[i-1], i, c.Me, e, ok, c)
	}
}

// isBase fails, if a snapshot is not one of what is agreed on.
func (w *world) isBase(s api.Snap) {
	w.t.Helper()
	want := api.Snap{Index: s.Index, Mask: w.first, Text: w.sums[s.Index]}
	for _, e := range w.agreed[:s.Index] {
		want.Term = e.Term
		if e.Kind == api.EntryMask {
			want.Mask = e.Mask
		}
	}
	if s != want {
		w.t.Fatalf("the snapshot %+v, want %+v", s, want)
	}
}

// sum is a text of what is agreed on, with one entry more.
func sum(s string, e api.Entry) string {
	h := fnv.New64()
	fmt.Fprint(h, s, e)
	return fmt.Sprintf("%x", h.Sum64())
}

// stop lets a node lose all but what it keeps; start lets it begin anew of that.
func (w *world) stop(i int) { w.up[i] = false }

func (w *world) start(i int) {
	c := w.cores[i]
	d, e := raft.New(i, api.Vote{Term: c.Term, For: c.Vote}, c.Base, c.Log, w.r.Intn(100))
	if e != api.OK {
		w.t.Fatalf("New: %v of %+v", e, c)
	}
	w.cores[i], w.up[i] = d, true
}

// deliver lets the k-th message under way come, or be lost, and leaves it under way, if it is to come once more.
func (w *world) deliver(k int, lost, again bool) {
	w.t.Helper()
	m := w.wire[k]
	if !again {
		w.wire = slices.Delete(w.wire, k, k+1)
	}
	if !lost && w.up[m.To] && !w.cut[[2]int{m.From, m.To}] {
		w.step(m.To, api.Input{Kind: api.InMsg, Msg: m})
	}
}

// round is a tick of all nodes that are up, behind which all messages come.
func (w *world) round(draw func(i int) int) {
	w.t.Helper()
	for i := range w.cores {
		if w.up[i] {
			w.step(i, api.Input{Draw: draw(i)})
		}
	}
	for k := 0; len(w.wire) > 0; k++ {
		if k > 20000 {
			w.t.Fatal("messages without end")
		}
		w.deliver(0, false, false)
	}
}

// habits are how often what happens in a world.
type habits struct {
	lost, again, stop, start, text, mask, cut, part int // of 1000
	late                                            bool
}

// chance tells whether something of n in 1000 happens now.
func (w *world) chance(n int) bool { return w.r.Intn(1000) < n }

// goesOn lets much happen.
func (w *world) goesOn(h habits, acts int) {
	w.t.Helper()
	for range acts {
		i := w.r.Intn(len(w.cores))
		if w.r.Intn(4) == 0 && w.up[i] {
			w.step(i, api.Input{Draw: w.r.Intn(100)})
		}
		for range 3 {
			if n := len(w.wire); n > 0 {
				k := 0
				if h.late {
					k = w.r.Intn(n)
				}
				w.deliver(k, w.chance(h.lost), w.chance(h.again))
			}
		}
		if n := len(w.wire); n > 150 {
			w.wire = slices.Delete(w.wire, 0, n-100)
		}
		w.perhaps(h)
	}
}

// perhaps lets one thing or another happen, as habits are.
func (w *world) perhaps(h habits) {
	i, j := w.r.Intn(len(w.cores)), w.r.Intn(len(w.cores))
	c := w.cores[i]
	if w.chance(h.part) && i != j {
		off := w.r.Intn(2) == 0
		w.cut[[2]int{i, j}], w.cut[[2]int{j, i}] = off, off
	}
	if !w.up[i] {
		if w.chance(h.start) {
			w.start(i)
		}
		return
	}
	if w.chance(h.stop) {
		w.stop(i)
		return
	}
	if w.chance(h.text) {
		w.laid++
		w.step(i, api.Input{Kind: api.InText, Text: fmt.Sprint(w.laid)})
	}
	if w.chance(h.mask) {
		mask, _ := raft.Members(c)
		w.step(i, api.Input{Kind: api.InMask, Mask: mask ^ 1<<j})
	}
	if c = w.cores[i]; w.chance(h.cut) && c.Commit > c.Base.Index {
		index := c.Base.Index + 1 + w.r.Intn(c.Commit-c.Base.Index)
		if e := w.step(i, api.Input{Kind: api.InCut, Index: index, Text: w.sums[index]}); e != api.OK {
			w.t.Fatalf("a cut at %d: %v", index, e)
		}
	}
}

// like are draws that are like at each tick, and other ones of each node; unlike are ones that vary.
func like(draw int) func(i int) int       { return func(i int) int { return draw + i } }
func unlike(r *rand.Rand) func(i int) int { return func(int) int { return r.Intn(1000) } }

// heals lets all nodes be up and all messages come, and fails, if within some ticks not one leads, or within 20 more what is laid there is not agreed on by all members.
func (w *world) heals(ticks int, draw func(i int) int) {
	w.t.Helper()
	w.cut = map[[2]int]bool{}
	for i := range w.cores {
		if !w.up[i] {
			w.start(i)
		}
	}
	lead := -1
	for k := 0; lead < 0; k++ {
		if k == ticks {
			w.t.Fatalf("nobody leads: %+v", w.cores)
		}
		w.round(draw)
		lead = w.lead()
	}
	w.laid++
	if e := w.step(lead, api.Input{Kind: api.InText, Text: fmt.Sprint("healed ", w.laid)}); e != api.OK {
		w.t.Fatalf("a text for one that leads: %v", e)
	}
	index, _ := raft.Last(w.cores[lead])
	e, _ := raft.At(w.cores[lead], index)
	for range 20 {
		w.round(draw)
	}
	mask, _ := raft.Members(w.cores[lead])
	for _, i := range council.Nodes(mask) {
		if c := w.cores[i]; c.Commit < index || w.agreed[index-1] != e {
			w.t.Fatalf("what was laid as %d is not agreed on by %d: %+v", index, i, c)
		}
	}
}

// lead is the one that leads, -1 if there is none, or more than one.
func (w *world) lead() int {
	lead := -1
	for i, c := range w.cores {
		if c.Role == api.Leads {
			if lead >= 0 {
				return -1
			}
			lead = i
		}
	}
	return lead
}

// worlds are habits of worlds, from quiet to rough.
func worlds() []habits {
	return []habits{
		{text: 100, cut: 10},
		{text: 100, mask: 30, cut: 10},
		{lost: 50, again: 50, stop: 2, start: 20, text: 100, mask: 20, cut: 10, late: true},
		{lost: 10, stop: 3, start: 30, text: 50, mask: 50, cut: 3},
		{lost: 200, again: 200, stop: 5, start: 30, text: 100, mask: 30, cut: 30, part: 5, late: true},
		{lost: 10, again: 10, stop: 1, start: 30, text: 60, mask: 40, cut: 5, part: 20},
		{lost: 300, again: 100, stop: 10, start: 50, text: 60, mask: 60, cut: 5, part: 20, late: true},
		{lost: 100, again: 300, text: 200, mask: 100, cut: 1, part: 10, late: true},
		{lost: 200, again: 200, stop: 5, start: 30, text: 100, cut: 30, part: 5, late: true},
		{lost: 10, again: 10, stop: 1, start: 30, text: 60, cut: 5, part: 20},
	}
}

// lives lets a world go on and heal, again and again. Draws vary: of like ones two nodes might stand together for ever.
func (w *world) lives(h habits) {
	w.t.Helper()
	for range 4 {
		w.goesOn(h, 600)
		ticks := 120
		if h.mask > 0 {
			// A vote may be needed of one whose own members, being old ones, do not name who asks for it, so that both stand again and again.
			ticks = 1000
		}
		w.heals(ticks, unlike(w.r))
	}
}

// 16.3 and 16.4: whatever happens, and when it does no more.
func TestWorlds(t *testing.T) {
	agreed, terms, masks, bases := 0, 0, 0, 0
	for seed := range 200 {
		r := rand.New(rand.NewSource(int64(seed)))
		n := 1 + r.Intn(7)
		members := 1 + r.Intn(1<<n-1)
		if r.Intn(2) == 0 {
			members = 1<<n - 1
		}
		w := begin(t, r, n, members)
		w.lives(worlds()[seed%len(worlds())])
		agreed, terms = agreed+len(w.agreed), terms+len(w.leads)
		for _, e := range w.agreed {
			masks += e.Kind / api.EntryMask
		}
		for _, c := range w.cores {
			bases += min(1, c.Base.Index)
		}
	}
	if agreed < 10000 || terms < 500 || masks < 1000 || bases < 400 {
		t.Error("too little happened: ", agreed, " entries, ", terms, " terms, ", masks, " masks, ", bases, " snapshots")
	}
}

// 16.4: from the beginning on, and when one that leads stops.
func TestOneLeads(t *testing.T) {
	for n := 1; n <= api.MaxNodes; n++ {
		for draw := range 22 {
			w := begin(t, rand.New(rand.NewSource(int64(draw))), n, 1<<n-1)
			w.heals(120, like(draw))
			stopped := w.lead()
			if n < 3 {
				continue
			}
			w.stop(stopped)
			w.cores[stopped].Role = api.Follows
			for k := 0; w.lead() < 0; k++ {
				if k == 120 {
					t.Fatalf("of %d nodes nobody leads without %d", n, stopped)
				}
				w.round(like(draw))
			}
			w.heals(120, like(draw))
		}
	}
}
