package client_test

import (
	"math/rand"
	"slices"
	"testing"

	"auspice/api"
	"auspice/client"
	"auspice/event"
	"auspice/sm"
)

// 22.4

// world is one log, machines that are behind some of it, and those who tell to it and read from it.
type world struct {
	t       *testing.T
	r       *rand.Rand
	log     []string
	lead    int
	all     *sm.Machine   // behind the whole log
	nodes   []*sm.Machine // each behind a beginning of it
	counted []api.Event   // the events that counted, in order
	found   []api.Match   // all matches, in order
	tellers []*client.Teller
	added   [][]api.Event // of each teller
	readers []*client.Reader
	old     []string // commands that come once more some time
	late    []answer // what a reader hears once more some time
	rough   bool     // whether something is lost or comes twice
	falls   bool     // whether stamps fall
	closes  bool     // whether sessions are closed that a teller has
	stamp   int
}

// answer is what a node told the reader who.
type answer struct {
	who, next int
	l         []api.Match
	e         api.Errno
}

// begins is a world of some nodes, whose log begins with the pattern that is read.
func begins(t *testing.T, r *rand.Rand, nodes int) *world {
	w := &world{t: t, r: r, all: sm.New(), rough: true}
	for range nodes {
		w.nodes = append(w.nodes, sm.New())
	}
	w.lay(command(t, api.Cmd{Kind: api.CmdAdd, Name: "p", Text: "a ; b within 2"}))
	for range 3 {
		w.tellers = append(w.tellers, teller(t, nodes))
		w.added = append(w.added, nil)
		w.readers = append(w.readers, client.NewReader(nodes, "p", 1+r.Intn(4)))
	}
	return w
}

// happens tells whether something rough happens, as one of n.
func (w *world) happens(n int) bool { return w.rough && w.r.Intn(n) == 0 }

// lay lets a command come, and notes what becomes of it.
func (w *world) lay(text string) api.Reply {
	w.log = append(w.log, text)
	events := w.all.Count()
	reply := w.all.Apply(len(w.log), text)
	if w.all.Count() > events {
		c, _ := sm.Read(text)
		w.counted = append(w.counted, c.E)
	}
	l, _, e := w.all.Matches("p", len(w.found), 1000)
	if e != api.OK {
		w.t.Fatalf("more matches at once than are kept")
	}
	w.found = append(w.found, l...)
	return reply
}

// follows lets a node come closer to the end of the log.
func (w *world) follows(i, most int) {
	m := w.nodes[i]
	for range min(most, len(w.log)-m.Index()) {
		m.Apply(m.Index()+1, w.log[m.Index()])
	}
}

// adds lets an event of a teller wait.
func (w *world) adds(k int) {
	if w.r.Intn(40) == 0 {
		w.stamp++
	}
	stamp := w.stamp
	if w.falls && w.r.Intn(8) == 0 {
		stamp = max(0, stamp-w.r.Intn(3))
	}
	kind := string(rune('a' + w.r.Intn(2)))
	e := of(stamp, kind, whole("n", len(w.added[k])), whole("who", k)) // it tells whose it is, and as which one it was added
	if w.tellers[k].Add(e) == api.OK {
		w.added[k] = append(w.added[k], e)
	}
}

// tells lets a teller ask, and hear an answer, or none.
func (w *world) tells(k int) {
	x := w.tellers[k]
	a, ok := x.Ask()
	switch {
	case !ok:
		return
	case w.happens(6): // the question is lost
		x.Late()
		return
	case a.To != w.lead:
		x.Told(api.Reply{Err: api.ErrLead}, w.r.Intn(len(w.nodes)+2)-1)
		return
	}
	reply := w.lay(a.Text)
	if w.happens(4) {
		w.lay(a.Text)
	}
	if w.happens(3) {
		w.old = append(w.old, a.Text)
	}
	if w.happens(5) { // the answer is lost
		x.Late()
		return
	}
	x.Told(reply, w.lead)
	if reply.Err == api.OK && w.happens(4) {
		x.Told(reply, w.lead)
	}
}

// reads lets a reader ask, and hear an answer, or none.
func (w *world) reads(k int) {
	x := w.readers[k]
	a, _ := x.Ask()
	l, next, e := w.nodes[a.To].Matches(a.Name, a.From, a.Most)
	switch {
	case w.happens(5):
		x.Late()
	case w.happens(5):
		w.late = append(w.late, answer{k, next, l, e})
		x.Told(l, next, e)
		x.Told(l, next, e)
	default:
		x.Told(l, next, e)
	}
}

// held tells whether a teller has a session.
func (w *world) held(id int) bool {
	return slices.ContainsFunc(w.tellers, func(x *client.Teller) bool { i, _ := x.Session(); return i == id })
}

// tidies closes sessions that nobody has, so that there is room for others, or one that somebody has.
func (w *world) tidies() {
	l := w.all.Sessions()
	for _, s := range l {
		if len(l) > 20 && !w.held(s.ID) || w.closes && w.held(s.ID) && w.happens(20) {
			w.lay(command(w.t, api.Cmd{Kind: api.CmdClose, ID: s.ID}))
		}
	}
}

// goesOn lets something happen.
func (w *world) goesOn() {
	k := w.r.Intn(3)
	switch w.r.Intn(8) {
	case 0, 1:
		w.adds(k)
	case 2, 3, 4:
		w.tells(k)
	case 5:
		w.reads(k)
	case 6:
		w.follows(w.r.Intn(len(w.nodes)), w.r.Intn(9))
	case 7:
		w.roughly()
	}
	w.tidies()
}

// roughly lets another one lead, what is late come, or matches be forgotten.
func (w *world) roughly() {
	switch w.r.Intn(5) {
	case 0:
		w.lead = w.r.Intn(len(w.nodes))
	case 1, 2:
		if n := len(w.old); n > 0 {
			w.lay(w.old[w.r.Intn(n)])
		}
	case 3:
		if n := len(w.late); n > 0 {
			x := w.late[w.r.Intn(n)]
			w.readers[x.who].Told(x.l, x.next, x.e)
		}
	case 4:
		if w.r.Intn(4) == 0 {
			w.lay(command(w.t, api.Cmd{Kind: api.CmdForget, Name: "p", N: w.r.Intn(len(w.found) + 1)}))
		}
	}
}

// ends lets all that waits be told, and all matches be read.
func (w *world) ends() {
	w.rough = false
	for k := range w.tellers {
		for range 2000 {
			w.tells(k)
		}
	}
	for i := range w.nodes {
		w.follows(i, len(w.log))
	}
	for k := range w.readers {
		for range 2000 {
			w.reads(k)
		}
	}
}

// places are, of some events, as which ones of that teller they were added.
func places(l []api.Event, who int) (of []int) {
	for _, e := range l {
		if k, _ := event.Get(e, "who"); k.N == who {
			n, _ := event.Get(e, "n")
			of = append(of, n.N)
		}
	}
	return of
}

// rises tells whether numbers rise, none of them twice.
func rises(l []int) bool {
	for i := range l {
		if i > 0 && l[i] <= l[i-1] {
			return false
		}
	}
	return true
}

// once fails, unless each event of a teller that waits no more counted once, in order, or was refused.
func (w *world) once(k int) {
	w.t.Helper()
	x := w.tellers[k]
	came, refused := places(w.counted, k), places(x.Refused(), k)
	if !rises(came) || !rises(refused) {
		w.t.Fatalf("the teller %d: these counted: %v; these were refused: %v", k, came, refused)
	}
	ended := len(w.added[k]) - x.Left()
	both := slices.Concat(came, refused)
	slices.Sort(both)
	// One more may have come whose answer was lost.
	if !rises(both) || len(both) < ended || len(both) > ended+1 || len(both) > 0 && both[len(both)-1] != len(both)-1 {
		w.t.Fatalf("the teller %d, of which %d events ended: these counted: %v; these were refused: %v", k, ended, came, refused)
	}
}

// inOrder fails, unless each event of a session counted once, in order, and each one that waits no more counted, or was refused.
func (w *world) inOrder(k int) {
	w.t.Helper()
	sessions := map[int][]api.Event{}
	for _, e := range w.counted {
		sessions[e.Session] = append(sessions[e.Session], e)
		if e.Seq != len(sessions[e.Session]) {
			w.t.Fatalf("the event %d of a session as its %d.", e.Seq, len(sessions[e.Session]))
		}
	}
	for id, l := range sessions {
		if !rises(places(l, k)) {
			w.t.Fatalf("these of the teller %d counted in the session %d: %v", k, id, places(l, k))
		}
	}
	both := slices.Concat(places(w.counted, k), places(w.tellers[k].Refused(), k))
	for n := range len(w.added[k]) - w.tellers[k].Left() {
		if !slices.Contains(both, n) {
			w.t.Fatalf("the event %d of the teller %d is not there", n, k)
		}
	}
}

// behind fails, unless what a reader got are the matches, one behind the other, each once, but those that were gone.
func (w *world) behind(k int) {
	w.t.Helper()
	x := w.readers[k]
	_, base, e := w.all.Matches("p", 0, 0)
	if e == api.OK {
		base = 0
	}
	n := 0
	for _, g := range x.Got() {
		if g.N < n || g.N > n && g.N > base || g.N >= len(w.found) || !slices.Equal(g.M.Picks, w.found[g.N].Picks) {
			w.t.Fatalf("the reader %d got %v, though the next one is %d, and those from %d on are kept", k, g, n, base)
		}
		n = g.N + 1
	}
	if x.At() < n || x.At() > n && x.At() > base || x.Gone()+len(x.Got()) != x.At() {
		w.t.Fatalf("the reader %d is at %d, got %d, of %d it was told that they are gone", k, x.At(), len(x.Got()), x.Gone())
	}
}

// plays lets a world go its way, and holds it against the promise.
func (w *world) plays(steps int) {
	w.t.Helper()
	holds := func() {
		for k := range w.tellers {
			if w.closes {
				w.inOrder(k)
			} else {
				w.once(k)
			}
			w.behind(k)
		}
	}
	for i := range steps {
		w.goesOn()
		if i%16 == 0 {
			holds()
		}
	}
	w.ends()
	holds()
	for k, x := range w.tellers {
		if x.Left() != 0 || w.readers[k].At() != len(w.found) {
			w.t.Fatalf("%d events wait; the reader is at %d of %d", x.Left(), w.readers[k].At(), len(w.found))
		}
	}
}

func TestEachEventCountsOnce(t *testing.T) {
	r := draws()
	for i := range 40 {
		w := begins(t, r, 1+r.Intn(7))
		w.falls = i%2 == 0
		w.plays(600)
	}
}

func TestSessionsAreClosed(t *testing.T) {
	r := draws()
	for i := range 40 {
		w := begins(t, r, 1+r.Intn(7))
		w.falls, w.closes = i%2 == 0, true
		w.plays(600)
	}
}
