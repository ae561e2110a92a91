package cluster_test

import (
	"fmt"
	"math"
	"math/rand"
	"reflect"
	"slices"
	"strings"
	"testing"

	"auspice/api"
	"auspice/client"
	"auspice/cluster"
	"auspice/sm"
)

// draws is a row of numbers that is the same at each run.
func draws() *rand.Rand { return rand.New(rand.NewSource(23)) }

// The acts, by what their kinds name.
func tick(n, draw, delay int) api.Act {
	return api.Act{Kind: api.ActTick, N: n, Draw: draw, Delay: delay}
}
func stop(i, n int) api.Act     { return api.Act{Kind: api.ActStop, Node: i, N: n} }
func start(i, draw int) api.Act { return api.Act{Kind: api.ActStart, Node: i, Draw: draw} }
func trip(i, n, keep int) api.Act {
	return api.Act{Kind: api.ActTrip, Node: i, N: n, Keep: keep}
}
func room(i, n int) api.Act { return api.Act{Kind: api.ActRoom, Node: i, N: n} }
func cut(i, j int) api.Act  { return api.Act{Kind: api.ActCut, Node: i, Other: j, N: 1} }
func join(i, j int) api.Act { return api.Act{Kind: api.ActCut, Node: i, Other: j} }
func lose(n int) api.Act    { return api.Act{Kind: api.ActLose, N: n} }
func twice(n, delay int) api.Act {
	return api.Act{Kind: api.ActTwice, N: n, Delay: delay}
}
func mask(i, n int) api.Act { return api.Act{Kind: api.ActMask, Node: i, N: n} }
func lay(i int, s string) api.Act {
	return api.Act{Kind: api.ActLay, Node: i, Text: s}
}
func tell(k int, e api.Event) api.Act { return api.Act{Kind: api.ActTell, Who: k, E: e} }
func ask(k int) api.Act               { return api.Act{Kind: api.ActAsk, Who: k} }
func follow(k int, name string, n int) api.Act {
	return api.Act{Kind: api.ActFollow, Who: k, Name: name, N: n}
}
func read(k int) api.Act { return api.Act{Kind: api.ActRead, Who: k} }

// later is an act whose messages come after a delay.
func later(a api.Act, delay int) api.Act {
	a.Delay = delay
	return a
}

// of is an event as it is told.
func of(stamp int, kind string) api.Event { return api.Event{Stamp: stamp, Kind: kind} }

// command is a command's text.
func command(c api.Cmd) string {
	s, e := sm.Write(c)
	if e != api.OK {
		panic(fmt.Sprint("no command: ", c))
	}
	return s
}

// open, add and told are texts of commands.
func open() string { return command(api.Cmd{Kind: api.CmdOpen}) }
func add(name, text string) string {
	return command(api.Cmd{Kind: api.CmdAdd, Name: name, Text: text})
}
func told(session, seq int, e api.Event) string {
	e.Session, e.Seq = session, seq
	return command(api.Cmd{Kind: api.CmdEvent, E: e})
}

// big is so many bytes.
func big(n int) string { return strings.Repeat("x", n) }

// begun is a new cluster.
func begun(t *testing.T, nodes int) *cluster.Cluster {
	t.Helper()
	c := cluster.New(nodes)
	if c == nil {
		t.Fatalf("New(%d): nil", nodes)
	}
	return c
}

// led is a cluster whose node 0 leads, with no message under way.
func led(t *testing.T, nodes int) *cluster.Cluster {
	t.Helper()
	c := begun(t, nodes)
	does(t, c, tick(22, 0, 0))
	if c.Core(0).Role != api.Leads || c.Under() != 0 {
		t.Fatalf("of %d nodes: the node 0 is %+v behind 22 ticks, %d messages are under way", nodes, c.Core(0), c.Under())
	}
	return c
}

// does lets acts happen, and fails, unless they are answered OK.
func does(t *testing.T, c *cluster.Cluster, l ...api.Act) {
	t.Helper()
	for _, a := range l {
		fails(t, c, a, api.OK)
	}
}

// fails lets an act happen, and fails, unless it is answered by that error.
func fails(t *testing.T, c *cluster.Cluster, a api.Act, want api.Errno) {
	t.Helper()
	if e := c.Do(a); e != want {
		t.Fatalf("Do(%s): %d, want %d", short(a), e, want)
	}
}

// short is a text of what something is.
func short(x any) string { return fmt.Sprintf("%.300s", fmt.Sprintf("%+v", x)) }

// tellers fails, unless a teller has that session, so many events wait, it asks that node (-1: nobody), and waits for an answer or not.
func tellers(t *testing.T, c *cluster.Cluster, k int, id, seq, left, to int, waits bool) {
	t.Helper()
	x := c.Teller(k)
	if i, s := x.Session(); i != id || s != seq {
		t.Errorf("the teller %d: session %d, %d, want %d, %d", k, i, s, id, seq)
	}
	if n := x.Left(); n != left {
		t.Errorf("the teller %d: %d wait, want %d", k, n, left)
	}
	if a, ok := x.Ask(); ok != (to >= 0) || ok && a.To != to {
		t.Errorf("the teller %d asks %d, %v, want %d", k, a.To, ok, to)
	}
	if c.Waits(k) != waits {
		t.Errorf("the teller %d waits: %v, want %v", k, c.Waits(k), waits)
	}
	if t.Failed() {
		t.FailNow()
	}
}

// readers fails, unless a reader asks that node from there on, at which so many are gone, and got the matches of these numbers.
func readers(t *testing.T, c *cluster.Cluster, k int, to, at, gone int, got ...int) {
	t.Helper()
	x := c.Reader(k)
	if a, ok := x.Ask(); !ok || a.To != to || a.From != at {
		t.Errorf("the reader %d asks %+v, %v, want the node %d, from %d on", k, a, ok, to, at)
	}
	var l []int
	for _, g := range x.Got() {
		l = append(l, g.N)
	}
	if x.At() != at || x.Gone() != gone || !slices.Equal(l, got) {
		t.Errorf("the reader %d: at %d, %d gone, got %v, want %d, %d, %v", k, x.At(), x.Gone(), l, at, gone, got)
	}
	if t.Failed() {
		t.FailNow()
	}
}

// ups fails, unless those nodes are up, and no others.
func ups(t *testing.T, c *cluster.Cluster, l ...int) {
	t.Helper()
	for i := range c.Nodes() {
		if c.Up(i) != slices.Contains(l, i) {
			t.Fatalf("the node %d is up: %v", i, c.Up(i))
		}
	}
}

// asker is what a teller tells of itself.
type asker struct {
	id, seq, left int
	ask           api.Ask
	asks, waits   bool
	refused       []api.Event
}

// looker is what a reader tells of itself.
type looker struct {
	there    bool
	at, gone int
	got      []api.Got
	ask      api.Ask
	asks     bool
}

// state is all that a cluster tells.
type state struct {
	nodes, now, under int
	up                []bool
	cores             []api.Core
	saved             []string
	applied           []int
	tellers           []asker
	readers           []looker
}

func askerOf(x *client.Teller, waits bool) (a asker) {
	a.id, a.seq = x.Session()
	a.ask, a.asks = x.Ask()
	a.left, a.refused, a.waits = x.Left(), x.Refused(), waits
	return a
}

func lookerOf(x *client.Reader) (l looker) {
	l.there, l.at, l.gone, l.got = x != nil, x.At(), x.Gone(), x.Got()
	l.ask, l.asks = x.Ask()
	return l
}

// bare is a core whose empty log is nil.
func bare(c api.Core) api.Core {
	if len(c.Log) == 0 {
		c.Log = nil
	}
	return c
}

// stateOf is a cluster's state.
func stateOf(c *cluster.Cluster) state {
	s := state{nodes: c.Nodes(), now: c.Now(), under: c.Under()}
	for i := range c.Nodes() {
		s.up, s.cores = append(s.up, c.Up(i)), append(s.cores, bare(c.Core(i)))
		s.saved, s.applied = append(s.saved, c.Saved(i)), append(s.applied, c.Applied(i))
	}
	for k := range 4 {
		s.tellers = append(s.tellers, askerOf(c.Teller(k), c.Waits(k)))
		s.readers = append(s.readers, lookerOf(c.Reader(k)))
	}
	return s
}

// same fails, if two states are not the same.
func same(t *testing.T, what string, got, want state) {
	t.Helper()
	if reflect.DeepEqual(got, want) {
		return
	}
	g, w := reflect.ValueOf(got), reflect.ValueOf(want)
	for i := range g.NumField() {
		if a, b := fmt.Sprintf("%+v", g.Field(i)), fmt.Sprintf("%+v", w.Field(i)); a != b {
			t.Errorf("%s: %s:\n got %.1500s\nwant %.1500s", what, g.Type().Field(i).Name, a, b)
		}
	}
	t.FailNow()
}

// stays fails, unless an act is answered by that error, and changes nothing.
func stays(t *testing.T, c *cluster.Cluster, a api.Act, want api.Errno) {
	t.Helper()
	s := stateOf(c)
	fails(t, c, a, want)
	same(t, short(a), stateOf(c), s)
}

// far are numbers far from all that may be.
func far() []int {
	return []int{math.MinInt, math.MinInt + 1, -api.MaxIndex, -1, api.MaxIndex + 1, math.MaxInt - 1, math.MaxInt}
}
