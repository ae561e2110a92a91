package cluster_test

import (
	"math/rand"
	"reflect"
	"slices"
	"testing"

	"auspice/api"
	"auspice/cluster"
	"auspice/raft"
	"auspice/sm"
)

// 23.3 and 23.4

// world is a cluster, and what has been seen of it so far.
type world struct {
	t       *testing.T
	r       *rand.Rand
	c       *cluster.Cluster
	n       int
	leads   map[int]int         // by terms
	agreed  []api.Entry         // of the indexes from 1 on
	machine *sm.Machine         // to which all of them came
	saved   []string            // its text behind as many of them
	counted map[int][]api.Event // the events that counted, by sessions
	found   []api.Match         // of the pattern p
	added   [][]api.Event       // of each teller
	came    [][]api.Event       // of each teller what it was told came, with session and number
	stamp   int
	falls   bool // whether stamps fall
	cuts    int  // how often a log was cut
}

func worldOf(t *testing.T, r *rand.Rand, nodes int) *world {
	w := &world{t: t, r: r, c: begun(t, nodes), n: nodes, leads: map[int]int{}, machine: sm.New(), counted: map[int][]api.Event{}}
	w.saved = []string{w.machine.Save()}
	w.added, w.came = make([][]api.Event, 4), make([][]api.Event, 4)
	return w
}

// cores are what all nodes know.
func (w *world) cores() (l []api.Core) {
	for i := range w.n {
		l = append(l, w.c.Core(i))
	}
	return l
}

// do lets an act happen, and holds what comes of it against what has been seen.
func (w *world) do(a api.Act) api.Errno {
	w.t.Helper()
	before := w.cores()
	var asks [4]int
	for k := range asks {
		asks[k] = w.c.Teller(k).Left() + len(w.c.Teller(k).Refused())
	}
	laid := a.Text
	if q, ok := w.c.Teller(a.Who).Ask(); a.Kind == api.ActAsk && ok {
		laid = q.Text
	}
	e := w.c.Do(a)
	if a.Kind == api.ActTell && e == api.OK {
		w.added[a.Who] = append(w.added[a.Who], a.E)
		asks[a.Who]++
	}
	for _, c := range w.cores() {
		w.agrees(c, before, laid, a)
	}
	w.alike()
	for k := range asks {
		w.told(k, asks[k])
	}
	return e
}

// agrees notes what a node is agreed on, and fails, if that is anything else than all are.
func (w *world) agrees(c api.Core, before []api.Core, laid string, a api.Act) {
	w.t.Helper()
	for i := len(w.agreed) + 1; i <= c.Commit; i++ {
		w.comes(w.hidden(c, i, before, laid, a))
	}
	for i := c.Base.Index + 1; i <= c.Commit; i++ {
		if x, _ := raft.At(c, i); x != w.agreed[i-1] {
			w.t.Fatalf("%s is agreed on as %d, but %d has %s", short(w.agreed[i-1]), i, c.Me, short(x))
		}
	}
	if n := c.Base.Index; n > 0 && (c.Base.Term != w.agreed[n-1].Term || c.Base.Text != w.saved[n]) {
		w.t.Fatalf("the snapshot of %d is %s", c.Me, short(c.Base))
	}
	if c.Role == api.Leads {
		if who, there := w.leads[c.Term]; there && who != c.Me {
			w.t.Fatalf("%d and %d lead in the term %d", who, c.Me, c.Term)
		}
		w.leads[c.Term] = c.Me
	}
}

// hidden is the entry of an index that a node is agreed on, also where it has cut its log: one that stands in another log, or stood in one, or is the one that was laid just now.
func (w *world) hidden(c api.Core, i int, before []api.Core, laid string, a api.Act) (found api.Entry) {
	w.t.Helper()
	if x, ok := raft.At(c, i); ok && i > c.Base.Index {
		return x
	}
	w.cuts++
	found.Term = -1
	for _, d := range append(w.cores(), before...) {
		x, ok := raft.At(d, i)
		if ok && i > d.Base.Index && x.Term > found.Term && (i < c.Base.Index || x.Term == c.Base.Term) {
			found = x
		}
	}
	if found.Term >= 0 {
		return found
	}
	if i != c.Base.Index {
		w.t.Fatalf("nobody has %d, that %d is agreed on", i, c.Me)
	}
	switch {
	case a.Kind == api.ActMask:
		return api.Entry{Term: c.Base.Term, Kind: api.EntryMask, Mask: a.N}
	case a.Kind == api.ActTick:
		return api.Entry{Term: c.Base.Term, Kind: api.EntryNoop}
	}
	return api.Entry{Term: c.Base.Term, Text: laid}
}

// comes notes an entry that is agreed on.
func (w *world) comes(x api.Entry) {
	w.agreed = append(w.agreed, x)
	if x.Kind == api.EntryText {
		n := w.machine.Count()
		w.machine.Apply(len(w.agreed), x.Text)
		if w.machine.Count() > n {
			c, _ := sm.Read(x.Text)
			w.counted[c.E.Session] = append(w.counted[c.E.Session], c.E)
		}
	}
	w.saved = append(w.saved, w.machine.Save())
	l, _, _ := w.machine.Matches("p", len(w.found), 1000)
	w.found = append(w.found, l...)
}

// alike fails, if a node's machine is not the one machine.
func (w *world) alike() {
	w.t.Helper()
	for i := range w.n {
		if n := w.c.Applied(i); n > len(w.agreed) || w.c.Saved(i) != w.saved[n] {
			w.t.Fatalf("the machine of %d is another one behind %d, of %d", i, n, len(w.agreed))
		}
	}
}

// told notes what a teller was told came, and fails, if it did not.
func (w *world) told(k, waited int) {
	w.t.Helper()
	x := w.c.Teller(k)
	left := x.Left() + len(x.Refused())
	id, seq := x.Session()
	if left < waited-1 || left > waited {
		w.t.Fatalf("of the teller %d %d events wait or are refused, there were %d", k, left, waited)
	}
	if left < waited {
		e := w.added[k][len(w.added[k])-x.Left()-1]
		e.Session, e.Seq = id, seq
		w.came[k] = append(w.came[k], e)
		if l := w.counted[id]; len(l) < seq || !reflect.DeepEqual(l[seq-1], e) {
			w.t.Fatalf("the teller %d was told that %v came, but there came %v", k, e, l)
		}
	}
}

// holds fails, if an event counted twice in a session, or one of which a teller was told that it came is not there, in order; or if a reader got what is no match.
func (w *world) holds() {
	w.t.Helper()
	for id, l := range w.counted {
		for i, e := range l {
			if e.Seq != i+1 || i > 0 && (e.Fields[0] != l[0].Fields[0] || e.Fields[1].V.N <= l[i-1].Fields[1].V.N) {
				w.t.Fatalf("in the session %d there counted %v", id, l)
			}
		}
	}
	for k, l := range w.came {
		n := -1
		for _, e := range l {
			if !reflect.DeepEqual(w.counted[e.Session][e.Seq-1], e) || e.Fields[0].V.N != k || e.Fields[1].V.N <= n {
				w.t.Fatalf("the teller %d was told of %v", k, l)
			}
			n = e.Fields[1].V.N
		}
		w.reads(k)
	}
}

// reads fails, if a reader got what is no match.
func (w *world) reads(k int) {
	w.t.Helper()
	x, n := w.c.Reader(k), 0
	for _, g := range x.Got() {
		if g.N < n || g.N >= len(w.found) || !slices.Equal(g.M.Picks, w.found[g.N].Picks) {
			w.t.Fatalf("the reader %d got %v, though the next one is %d", k, g, n)
		}
		n = g.N + 1
	}
	if x.At() < n || len(x.Got())+x.Gone() != x.At() {
		w.t.Fatalf("the reader %d is at %d, got %d, of %d it was told that they are gone", k, x.At(), len(x.Got()), x.Gone())
	}
}

// event is the next event of a teller: it says whose it is, and which one.
func (w *world) event(k int) api.Event {
	e := of(w.stamp, string(rune('a'+w.r.Intn(3))))
	if w.falls && w.r.Intn(4) == 0 {
		e.Stamp = max(0, e.Stamp-w.r.Intn(2))
		w.stamp += w.r.Intn(2)
	}
	e.Fields = []api.Field{{Name: "k", V: api.Value{Kind: api.Whole, N: k}}, {Name: "n", V: api.Value{Kind: api.Whole, N: len(w.added[k])}}}
	return e
}

// lead is the one that leads, -1 if there is none, or more than one.
func (w *world) lead() int {
	lead := -1
	for i := range w.n {
		if w.c.Up(i) && w.c.Core(i).Role == api.Leads {
			if lead >= 0 {
				return -1
			}
			lead = i
		}
	}
	return lead
}

// goesOn lets much happen.
func (w *world) goesOn(h habits, acts int) {
	w.t.Helper()
	for i := range acts {
		a := anyAct(w.r, h, w.n, w.c.Now(), 8*w.c.Now())
		if l := w.lead(); l >= 0 && i%2 == 0 {
			a.Node = l
		}
		switch a.Kind {
		case api.ActTick:
			a.N = 1
		case api.ActTell:
			a.E = w.event(a.Who)
		case api.ActFollow:
			a.Name = "p"
		case api.ActLay:
			if c, _ := sm.Read(a.Text); c.Kind == api.CmdClose && !w.falls {
				a.Text = "nothing" // a session's end lets an event come twice
			}
		}
		w.do(a)
		if i%16 == 0 {
			w.holds()
		}
	}
}

// tick lets a tick pass, in which messages come at once.
func (w *world) tick() {
	w.t.Helper()
	w.do(tick(1, w.r.Intn(1000), 0))
}

// heals lets all nodes be up, with room and joined, and fails, if within some ticks not one leads, or what is told there does not come.
func (w *world) heals(ticks int) {
	w.t.Helper()
	for i := range w.n {
		for _, a := range []api.Act{start(i, 1), start(i, 1), stop(i, w.r.Intn(99))} { // no trip is left then
			w.do(a)
		}
		if e := w.do(start(i, w.r.Intn(99))); e != api.OK {
			w.t.Fatalf("the node %d does not start: %d", i, e)
		}
		w.do(room(i, -1))
		for j := range i {
			w.do(join(i, j))
		}
	}
	for n := 0; ; n++ {
		w.tick()
		if w.lead() >= 0 {
			break
		}
		if n == ticks {
			w.t.Fatalf("nobody leads in %d ticks", ticks)
		}
	}
	if !slices.Contains(w.machine.Names(), "p") {
		w.do(lay(w.lead(), add("p", "a ; b within 2")))
	}
	for n := 0; w.left() > 0; n++ {
		if n == 1500 {
			w.t.Fatalf("%d events wait", w.left())
		}
		w.makesRoom()
		for k := range 4 {
			w.do(ask(k))
		}
		w.tick()
	}
	w.holds()
	w.stamp++
}

// left is how many events wait.
func (w *world) left() (n int) {
	for k := range 4 {
		n += w.c.Teller(k).Left()
	}
	return n
}

// makesRoom lets a session be closed that no teller has, if there are many.
func (w *world) makesRoom() {
	w.t.Helper()
	l, lead := w.machine.Sessions(), w.lead()
	for k := range 4 {
		id, _ := w.c.Teller(k).Session()
		l = slices.DeleteFunc(l, func(s api.Session) bool { return s.ID == id })
	}
	if len(l) > 20 && lead >= 0 {
		w.do(lay(lead, command(api.Cmd{Kind: api.CmdClose, ID: l[0].ID})))
	}
}

func TestWorlds(t *testing.T) {
	agreed, came, got, cuts := 0, 0, 0, 0
	for seed := range 84 {
		m := manners()[seed%len(manners())]
		m.strange = 0
		w := worldOf(t, rand.New(rand.NewSource(int64(seed))), 1+seed/6%7)
		w.falls = seed%4 == 3
		ticks := 120
		if m.mask > 0 {
			// A vote may be needed of one whose own members, being old ones, do not name who asks for it.
			ticks = 1000
		}
		for range 3 {
			w.goesOn(m, 300)
			w.heals(ticks)
		}
		for k := range 4 {
			if n := len(w.c.Teller(k).Refused()); n > 0 && !w.falls {
				t.Fatalf("of the teller %d %d events were refused, though no stamp fell", k, n)
			}
			came, got = came+len(w.came[k]), got+len(w.c.Reader(k).Got())
		}
		agreed, cuts = agreed+len(w.agreed), cuts+w.cuts
	}
	if agreed < 5000 || came < 3000 || got < 300 || cuts < 100 {
		t.Errorf("too little happened: %d entries agreed on, %d events came, %d matches were read, %d logs were cut", agreed, came, got, cuts)
	}
}

// 23.4, with draws that stay alike: each node has one of its own by its number.
func TestLikeDraws(t *testing.T) {
	for n := 1; n <= 7; n++ {
		for draw := range 11 {
			w := worldOf(t, draws(), n)
			w.leads120(draw)
			w.do(tell(0, w.event(0)))
			for range 4 * n { // a session, the event, and whom it asks
				w.do(ask(0))
				w.do(tick(1, draw, 0))
			}
			if n > 2 {
				w.do(stop(w.lead(), 0))
				w.leads120(draw)
			}
			if w.left() > 0 || len(w.came[0]) != 1 {
				t.Fatalf("%d nodes, the draw %d: %d events wait, there came %v", n, draw, w.left(), w.came[0])
			}
			w.holds()
		}
	}
}

// leads120 fails, unless one leads within 120 ticks of like draws.
func (w *world) leads120(draw int) {
	w.t.Helper()
	for range 120 {
		w.do(tick(1, draw, 0))
		if w.lead() >= 0 {
			return
		}
	}
	w.t.Fatalf("%d nodes, the draw %d: nobody leads in 120 ticks", w.n, draw)
}
