package cluster_test

import (
	"math"
	"math/rand"
	"strconv"
	"testing"

	"auspice/api"
	"auspice/client"
	"auspice/disk"
	"auspice/net"
	"auspice/node"
	"auspice/sm"
)

// held is a cluster as the chapter's words say it.
type held struct {
	t       *testing.T
	now     int
	disks   []*disk.Disk
	nodes   []*node.Node
	up      []bool
	wire    *net.Net
	tellers []*client.Teller
	readers []*client.Reader
	waits   [][]int // of each teller nothing, or the node, the index, the term, and since when
	sent    int     // the last message's number
}

func holds(t *testing.T, nodes int) *held {
	h := &held{t: t, wire: net.New(), readers: make([]*client.Reader, 4), waits: make([][]int, 4)}
	for i := range nodes {
		h.disks = append(h.disks, disk.New())
		n, e := node.Open(h.disks[i], i, 1<<nodes-1, 0)
		if e != api.OK {
			t.Fatal(e)
		}
		h.nodes, h.up = append(h.nodes, n), append(h.up, true)
	}
	for range 4 {
		h.tellers = append(h.tellers, client.NewTeller(nodes))
	}
	return h
}

// state is what the cluster tells.
func (h *held) state() state {
	s := state{nodes: len(h.nodes), now: h.now, under: h.wire.Len(), up: append([]bool(nil), h.up...)}
	for _, n := range h.nodes {
		s.cores, s.saved, s.applied = append(s.cores, bare(n.Core())), append(s.saved, n.Saved()), append(s.applied, n.Applied())
	}
	for k := range 4 {
		s.tellers = append(s.tellers, askerOf(h.tellers[k], h.waits[k] != nil))
		s.readers = append(s.readers, lookerOf(h.readers[k]))
	}
	return s
}

// late lets a teller be late, if it waits for that node.
func (h *held) lateFor(i int) {
	for k, w := range h.waits {
		if w != nil && w[0] == i {
			h.waits[k] = nil
			h.tellers[k].Late()
		}
	}
}

// behind is what comes behind anything that happens to a node.
func (h *held) behind(i, delay int) {
	for _, m := range h.nodes[i].Sent() {
		id, _ := h.wire.Send(h.now, m, delay)
		h.sent = max(h.sent, id)
	}
	for _, d := range h.nodes[i].Done() {
		for k, w := range h.waits {
			if w == nil || w[0] != i || w[1] != d.Index {
				continue
			}
			h.waits[k] = nil
			if w[2] == d.Term {
				h.tellers[k].Told(d.R, h.nodes[i].Core().Lead)
			} else {
				h.tellers[k].Late()
			}
		}
	}
	if h.nodes[i].Down() {
		h.up[i] = false
		h.lateFor(i)
	}
}

func (h *held) tick(a api.Act) {
	h.now++
	for k, w := range h.waits {
		if w != nil && w[3]+40 <= h.now {
			h.waits[k] = nil
			h.tellers[k].Late()
		}
	}
	for i, n := range h.nodes {
		if h.up[i] {
			draw := a.Draw + i
			if draw < a.Draw { // a draw counts modulo 11
				draw = a.Draw%11 + i
			}
			n.Tick(draw)
			h.behind(i, a.Delay)
		}
	}
	for range 50 {
		for _, m := range h.wire.Due(h.now) {
			if m.To < len(h.nodes) && h.up[m.To] {
				h.nodes[m.To].Take(m)
				h.behind(m.To, a.Delay)
			}
		}
	}
}

// within tells whether a number is from 0 to below another one.
func within(n, below int) bool { return 0 <= n && n < below }

// bad tells whether a number is none that may be, of a kind that names it.
func (h *held) bad(a api.Act) bool {
	type names struct{ node, who, delay bool }
	of := map[int]names{
		api.ActTick: {delay: true}, api.ActStop: {node: true}, api.ActStart: {node: true}, api.ActTrip: {node: true},
		api.ActRoom: {node: true}, api.ActCut: {node: true}, api.ActLose: {}, api.ActTwice: {delay: true},
		api.ActMask: {node: true, delay: true}, api.ActLay: {node: true, delay: true}, api.ActTell: {who: true},
		api.ActAsk: {who: true, delay: true}, api.ActFollow: {who: true}, api.ActRead: {who: true},
	}
	x, kind := of[a.Kind]
	return !kind || x.node && !within(a.Node, len(h.nodes)) || a.Kind == api.ActCut && !within(a.Other, len(h.nodes)) ||
		x.who && !within(a.Who, 4) || x.delay && !within(a.Delay, 1<<39+1)
}

// do is what an act does.
func (h *held) do(a api.Act) (e api.Errno) {
	if h.bad(a) {
		return api.ErrArg
	}
	i, k := a.Node, a.Who
	switch a.Kind {
	case api.ActTick:
		if !within(a.N, 201) {
			return api.ErrArg
		}
		for range a.N {
			h.tick(a)
		}
	case api.ActStop:
		if !h.up[i] {
			return api.ErrDown
		}
		h.disks[i].Fail(a.N)
		h.up[i] = false
		h.lateFor(i)
	case api.ActStart:
		if h.up[i] {
			return api.ErrThere
		}
		h.disks[i].Wake()
		n, e := node.Open(h.disks[i], i, 1<<len(h.nodes)-1, a.Draw)
		if e != api.OK {
			return e
		}
		h.nodes[i], h.up[i] = n, true
	case api.ActTrip:
		if a.N < 1 {
			return api.ErrArg
		}
		h.disks[i].Trip(a.N, a.Keep)
	case api.ActRoom:
		if a.N > 1<<39 {
			return api.ErrArg
		}
		if h.disks[i].Down() {
			return api.ErrDown
		}
		if a.N < 0 {
			h.disks[i].Room(-1)
		} else {
			h.disks[i].Room(h.disks[i].Used() + a.N)
		}
	case api.ActCut:
		h.wire.Cut(i, a.Other, a.N != 0)
	case api.ActLose:
		if !h.wire.Lose(a.N) {
			return api.ErrNone
		}
	case api.ActTwice:
		var id int
		id, e = h.wire.Twice(a.N, h.now, a.Delay)
		h.sent = max(h.sent, id)
	case api.ActMask, api.ActLay:
		if !h.up[i] {
			return api.ErrDown
		}
		if a.Kind == api.ActMask {
			e = h.nodes[i].Change(a.N)
		} else {
			_, _, e = h.nodes[i].Lay(a.Text)
		}
		h.behind(i, a.Delay)
	case api.ActTell:
		e = h.tellers[k].Add(a.E)
	case api.ActAsk:
		return h.ask(a)
	case api.ActFollow:
		r := client.NewReader(len(h.nodes), a.Name, a.N)
		if r == nil {
			return api.ErrArg
		}
		h.readers[k] = r
	case api.ActRead:
		return h.read(h.readers[k])
	}
	return e
}

func (h *held) ask(a api.Act) api.Errno {
	x := h.tellers[a.Who]
	if h.waits[a.Who] != nil {
		return api.ErrBusy
	}
	q, ok := x.Ask()
	if !ok {
		return api.ErrNone
	}
	if !h.up[q.To] {
		x.Late()
		return api.ErrDown
	}
	index, term, e := h.nodes[q.To].Lay(q.Text)
	if e == api.OK {
		h.waits[a.Who] = []int{q.To, index, term, h.now}
	} else {
		x.Told(api.Reply{Err: e}, h.nodes[q.To].Core().Lead)
	}
	h.behind(q.To, a.Delay)
	return e
}

func (h *held) read(x *client.Reader) api.Errno {
	if x == nil {
		return api.ErrNone
	}
	q, _ := x.Ask()
	if !h.up[q.To] {
		x.Late()
		return api.ErrDown
	}
	l, next, e := h.nodes[q.To].Matches(q.Name, q.From, q.Most)
	x.Told(l, next, e)
	return e
}

// strange are numbers that may not be, or that are far away.
func strange(r *rand.Rand) int {
	l := append(far(), -2, 7, 8, 200, 201, 1<<39)
	return l[r.Intn(len(l))]
}

// anyEvent is an event that may be, most often.
func anyEvent(r *rand.Rand, now int) api.Event {
	e := of(max(0, now-r.Intn(3)), []string{"a", "b", "c"}[r.Intn(3)])
	switch r.Intn(12) {
	case 0:
		e.Kind = "A"
	case 1:
		e.Session, e.Seq = 7, 9
	case 2:
		e.Stamp = 0
	case 3:
		e.Fields = []api.Field{{Name: "x", V: api.Value{Kind: api.Real, F: math.Copysign(0, -1)}}, {Name: "y", V: api.Value{Kind: api.Text, S: "é"}}}
	}
	return e
}

// anyText is a text that is laid.
func anyText(r *rand.Rand) string {
	name := []string{"p", "q"}[r.Intn(2)]
	switch r.Intn(7) {
	case 0, 1:
		return add(name, []string{"a ; b", "a | b", "a | b ; !c ; b within 9"}[r.Intn(3)])
	case 2:
		return command(api.Cmd{Kind: api.CmdForget, Name: name, N: r.Intn(4)})
	case 3:
		return command(api.Cmd{Kind: api.CmdClose, ID: 1 + r.Intn(60)})
	case 4:
		return big(r.Intn(900))
	case 5:
		if r.Intn(9) == 0 {
			return big(1<<15 + r.Intn(2))
		}
	}
	return "nothing"
}

// habits are how often what happens, in so many.
type habits struct{ stop, start, trip, room, cut, join, lose, mask, lay, ask, tell, read, strange, slow int }

// anyKind is a kind of act, as habits are.
func anyKind(r *rand.Rand, h habits) int {
	kinds := []struct{ kind, often int }{
		{api.ActTick, 60}, {api.ActStop, h.stop}, {api.ActStart, h.start}, {api.ActTrip, h.trip}, {api.ActRoom, h.room},
		{api.ActCut, h.cut}, {api.ActLose, h.lose}, {api.ActTwice, h.lose}, {api.ActMask, h.mask}, {api.ActLay, h.lay},
		{api.ActTell, h.tell}, {api.ActAsk, h.ask}, {api.ActFollow, 2}, {api.ActRead, h.read}, {r.Intn(20) - 3, h.strange},
	}
	all := 0
	for _, x := range kinds {
		all += x.often
	}
	n := r.Intn(all)
	for _, x := range kinds {
		if n -= x.often; n < 0 {
			return x.kind
		}
	}
	return 0
}

// anyAct is an act, as habits are, of a cluster of so many nodes at which so many messages have been sent.
func anyAct(r *rand.Rand, h habits, nodes, now, sent int) api.Act {
	a := api.Act{Kind: anyKind(r, h), Node: r.Intn(nodes), Who: r.Intn(4), Draw: r.Intn(50)}
	if r.Intn(100) < h.slow {
		a.Delay = r.Intn(15)
	}
	switch a.Kind {
	case api.ActTick:
		a.N = 1 + r.Intn(4)
		if r.Intn(10) == 0 {
			a.N = r.Intn(45)
		}
	case api.ActStop:
		a.N = r.Intn(600) - 5
	case api.ActTrip:
		a.N, a.Keep = 1+r.Intn(9), r.Intn(500)-5
	case api.ActRoom:
		a.N = []int{r.Intn(900), r.Intn(90), -1, -1, -1}[r.Intn(5)]
	case api.ActCut:
		a.Other, a.N = r.Intn(nodes), 0
		if r.Intn(h.cut+h.join+1) < h.cut {
			a.N = 1 - 2*r.Intn(2)
		}
	case api.ActLose, api.ActTwice:
		a.N = sent - r.Intn(12)
	case api.ActMask:
		a.N = r.Intn(1 << nodes)
	case api.ActLay:
		a.Text = anyText(r)
	case api.ActTell:
		a.E = anyEvent(r, now)
	case api.ActFollow:
		a.N, a.Name = r.Intn(6), []string{"p", "q", "", "P"}[r.Intn(4)]
	}
	if r.Intn(200) < h.strange {
		for _, p := range []*int{&a.Node, &a.Other, &a.Who, &a.N, &a.Draw, &a.Delay, &a.Keep} {
			if r.Intn(5) == 0 {
				*p = strange(r)
			}
		}
	}
	return a
}

// manners are habits of clusters, from quiet to rough.
func manners() []habits {
	return []habits{
		{lay: 10, ask: 99, tell: 60, read: 40, strange: 2},
		{lay: 10, ask: 99, tell: 60, read: 40, strange: 2, stop: 2, start: 20},
		{lay: 20, ask: 99, tell: 60, read: 40, trip: 3, start: 20, room: 10, stop: 2},
		{lay: 10, ask: 99, tell: 60, read: 40, cut: 3, join: 9, lose: 30, slow: 30},
		{lay: 10, ask: 99, tell: 60, read: 40, mask: 9, slow: 10, strange: 5},
		{lay: 15, ask: 99, tell: 60, read: 40, strange: 5, stop: 2, start: 20, trip: 2, room: 5, cut: 2, join: 9, lose: 10, mask: 4, slow: 20},
	}
}

// 23.1 and 23.2

func TestClusterIsAsTold(t *testing.T) {
	r := draws()
	errors := map[api.Errno]int{}
	came, got, leads := 0, 0, 0
	for seed := range 84 {
		nodes := 1 + seed%7
		m := manners()[seed/7%len(manners())]
		c, h := begun(t, nodes), holds(t, nodes)
		for i := range 500 {
			a := anyAct(r, m, nodes, c.Now(), h.sent)
			if l := h.nodes[0].Core().Lead; l >= 0 && l < nodes && i%2 == 0 && a.Node < nodes {
				a.Node = l
			}
			e := h.do(a)
			errors[e]++
			what := strconv.Itoa(i) + " of " + strconv.Itoa(seed) + ": " + short(a)
			if x := c.Do(a); x != e {
				t.Fatalf("%s: %d, want %d", what, x, e)
			}
			same(t, what, stateOf(c), h.state())
		}
		for i := range nodes {
			leads += c.Core(i).Role
		}
		for k := range 4 {
			_, seq := c.Teller(k).Session()
			came, got = came+seq, got+len(c.Reader(k).Got())
		}
	}
	for _, e := range []api.Errno{api.OK, api.ErrArg, api.ErrNone, api.ErrDown, api.ErrThere, api.ErrBusy, api.ErrLead, api.ErrFull, api.ErrGone} {
		if errors[e] < 5 {
			t.Errorf("the error %d was answered %d times", e, errors[e])
		}
	}
	if came < 1500 || got < 250 || leads < 100 {
		t.Errorf("too little happened: %d events came, %d matches were read, the roles' sum is %d", came, got, leads)
	}
}

// one is the machine of a text.
func one(t *testing.T, s string) *sm.Machine {
	t.Helper()
	m, e := sm.Load(s)
	if e != api.OK {
		t.Fatalf("%.99q is no machine", s)
	}
	return m
}
