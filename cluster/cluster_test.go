package cluster_test

import (
	"fmt"
	whole "math/big"
	"reflect"
	"slices"
	"testing"

	"auspice/api"
	"auspice/cluster"
	"auspice/node"
	"auspice/raft"
)

// 23.1: New

func TestNew(t *testing.T) {
	for _, n := range append(far(), 0, 8, 9, 100) {
		if cluster.New(n) != nil {
			t.Errorf("New(%d) is a cluster", n)
		}
	}
	for n := 1; n <= 7; n++ {
		c := begun(t, n)
		if c.Nodes() != n || c.Now() != 0 || c.Under() != 0 {
			t.Errorf("New(%d): %d nodes, at %d, %d messages", n, c.Nodes(), c.Now(), c.Under())
		}
		for i := range n {
			core, e := raft.New(i, api.Vote{For: -1}, api.Snap{Mask: 1<<n - 1}, nil, 0)
			if got := c.Core(i); e != api.OK || !reflect.DeepEqual(bare(got), bare(core)) {
				t.Errorf("New(%d): the node %d is %+v, want %+v", n, i, got, core)
			}
			if !c.Up(i) || c.Saved(i) != "\x00\x00\x00\x01\x00\x00" || c.Applied(i) != 0 {
				t.Errorf("New(%d): the node %d is up: %v, has %q, %d", n, i, c.Up(i), c.Saved(i), c.Applied(i))
			}
		}
		for k := range 4 {
			tellers(t, c, k, 0, 0, 0, -1, false)
			if c.Reader(k) != nil {
				t.Errorf("New(%d): there is a reader %d", n, k)
			}
		}
	}
}

func TestClustersAreApart(t *testing.T) {
	c, d := begun(t, 2), begun(t, 2)
	s := stateOf(d)
	does(t, c, tick(30, 1, 0), tell(0, of(1, "a")), ask(0), follow(1, "p", 1), stop(1, 0))
	same(t, "another cluster", stateOf(d), s)
}

// 23.1: what may not be

func TestActsOfNoKind(t *testing.T) {
	c := led(t, 3)
	for _, kind := range append(far(), 14, 15, 99) {
		stays(t, c, api.Act{Kind: kind, N: 1}, api.ErrArg)
	}
}

// all are acts of all kinds that are answered OK, by a cluster of two nodes that was led, with a message, its number, under way.
func all(n int) []api.Act {
	return []api.Act{
		tick(1, 0, 0), cut(0, 1), join(0, 1), twice(n, 9), lose(n), room(1, 9), room(1, -1), trip(1, 1000, 0), lay(0, "ab"), mask(0, 1),
		tell(3, of(1, "a")), ask(3), follow(3, "p", 1), stop(1, 0), start(1, 0),
	}
}

// under is a cluster of two nodes, the node 0 leading, and the number of a message that is under way for long.
func under(t *testing.T) (*cluster.Cluster, int) {
	t.Helper()
	c := led(t, 2)
	does(t, c, later(lay(0, "x"), 9999))
	for n := 1; ; n++ {
		if c.Do(twice(n, 9999)) == api.OK {
			return c, n
		}
	}
}

func TestActsNameWhatIsThere(t *testing.T) {
	nodes := map[int]bool{api.ActStop: true, api.ActStart: true, api.ActTrip: true, api.ActRoom: true, api.ActCut: true, api.ActMask: true, api.ActLay: true}
	whos := map[int]bool{api.ActTell: true, api.ActAsk: true, api.ActFollow: true, api.ActRead: true}
	delays := map[int]bool{api.ActTick: true, api.ActTwice: true, api.ActMask: true, api.ActLay: true, api.ActAsk: true}
	// wrong holds that an act is an error with a number in a place just where its kind names that.
	wrong := func(what string, named map[int]bool, at func(a *api.Act) *int, numbers []int) {
		for _, n := range numbers {
			c, id := under(t)
			for _, a := range all(id) {
				bad := a
				*at(&bad) = n
				if named[a.Kind] {
					stays(t, c, bad, api.ErrArg)
				} else {
					a = bad
				}
				if e := c.Do(a); e != api.OK {
					t.Errorf("%s %d: Do(%s): %d", what, n, short(a), e)
				}
			}
		}
	}
	wrong("Node", nodes, func(a *api.Act) *int { return &a.Node }, append(far(), 2, 3, 7))
	wrong("Other", map[int]bool{api.ActCut: true}, func(a *api.Act) *int { return &a.Other }, append(far(), 2, 3, 7))
	wrong("Who", whos, func(a *api.Act) *int { return &a.Who }, append(far(), 4, 5))
	wrong("Delay", delays, func(a *api.Act) *int { return &a.Delay }, far())
	wrong("Keep", nil, func(a *api.Act) *int { return &a.Keep }, far())
	wrong("Draw", nil, func(a *api.Act) *int { return &a.Draw }, far())
	c := led(t, 2)
	does(t, c, follow(1, "p", 1))
	for _, k := range append(far(), 4) {
		a := read(k)
		a.Node = k
		stays(t, c, a, api.ErrArg)
	}
	for _, a := range []api.Act{tick(1, 0, 1<<39), later(lay(0, "x"), 1<<39), later(mask(0, 1), 1<<39)} {
		fails(t, c, a, api.OK)
	}
}

// 23.1: ActTick

func TestTicks(t *testing.T) {
	c := begun(t, 3)
	for _, n := range append(far(), 201, 1000) {
		stays(t, c, tick(n, 0, 0), api.ErrArg)
	}
	stays(t, c, tick(0, 3, 0), api.OK)
	for i, n := range []int{1, 200, 7} {
		does(t, c, tick(n, 0, 0))
		if want := []int{1, 201, 208}[i]; c.Now() != want {
			t.Errorf("Now is %d, want %d", c.Now(), want)
		}
	}
	if cluster.Most != 200 || cluster.Patience != 40 {
		t.Errorf("Most is %d, Patience %d", cluster.Most, cluster.Patience)
	}
}

// limit is how long a node waits by a draw and a number.
func limit(draw, i int) int {
	sum := new(whole.Int).Add(whole.NewInt(int64(draw)), whole.NewInt(int64(i)))
	return 10 + int(sum.Mod(sum, whole.NewInt(11)).Int64())
}

func TestEachNodeHasADrawOfItsOwn(t *testing.T) {
	for _, draw := range append(far(), 0, 1, 5, 10, 11, 12) {
		c := begun(t, 7)
		does(t, c, tick(9, draw, 0))
		for i := range 7 {
			if n := c.Core(i).Limit; n != 10 {
				t.Errorf("at first the Limit of %d is %d", i, n)
			}
		}
		does(t, c, tick(1, draw, 5))
		for i := range 7 {
			if core := c.Core(i); core.Role != api.Stands || core.Limit != limit(draw, i) {
				t.Errorf("Draw %d: the node %d is %+v, want the Limit %d", draw, i, core, limit(draw, i))
			}
		}
		does(t, c, stop(3, 0), start(3, draw))
		if n := c.Core(3).Limit; n != limit(draw, 0) {
			t.Errorf("Draw %d: the Limit of a node that starts is %d, want %d", draw, n, limit(draw, 0))
		}
	}
}

func TestNodesThatAreDownHaveNoTick(t *testing.T) {
	c := begun(t, 3)
	does(t, c, stop(1, 0), tick(9, 0, 0))
	for i, want := range []int{9, 0, 9} {
		if n := c.Core(i).Clock; n != want {
			t.Errorf("the Clock of %d is %d, want %d", i, n, want)
		}
	}
}

func TestMessagesComeWhenTheyAreDue(t *testing.T) {
	c := led(t, 3) // at 22
	last := func() (l []int) {
		for i := range 3 {
			n, _ := raft.Last(c.Core(i))
			l = append(l, n)
		}
		return l
	}
	does(t, c, later(lay(0, "ab"), 3), tick(1, 0, 50), tick(1, 0, 50))
	if n, l := c.Under(), last(); n != 6 || !slices.Equal(l, []int{2, 1, 1}) {
		t.Fatalf("at 24: %d messages, %v", n, l)
	}
	does(t, c, tick(1, 0, 60))
	if n, l := c.Under(), last(); n != 8 || !slices.Equal(l, []int{2, 2, 2}) {
		t.Fatalf("at 25: %d messages, %v", n, l)
	}
	if n := c.Core(0).Commit; n != 1 {
		t.Fatalf("at 25 %d are agreed on", n)
	}
	does(t, c, lay(0, "cd")) // comes at once, but not ahead of a tick
	if n, l := c.Under(), last(); n != 10 || !slices.Equal(l, []int{3, 2, 2}) {
		t.Fatalf("at 25: %d messages, %v", n, l)
	}
	does(t, c, tick(1, 0, 0))
	if n, l := c.Under(), last(); n != 8 || !slices.Equal(l, []int{3, 3, 3}) || c.Core(0).Commit != 3 {
		t.Fatalf("at 26: %d messages, %v, %d agreed on", n, l, c.Core(0).Commit)
	}
}

func TestMessagesComeFiftyTimesATick(t *testing.T) {
	c := led(t, 2)
	does(t, c, cut(0, 1))
	for range 60 {
		does(t, c, lay(0, big(20000)))
	}
	does(t, c, join(0, 1))
	// Each entry takes two times: it comes, and that it came.
	for i, want := range []int{1 + 25, 1 + 50, 1 + 60} {
		does(t, c, tick(1, 0, 0))
		n, _ := raft.Last(c.Core(1))
		if waits := c.Under() > 0; n != want || waits != (i < 2) {
			t.Fatalf("behind %d ticks the log goes up to %d, want %d; %d messages are under way", i+1, n, want, c.Under())
		}
	}
}

func TestMessagesToThoseWhoAreDownAreLost(t *testing.T) {
	c := led(t, 2)
	does(t, c, later(lay(0, "ab"), 2), stop(1, 0), tick(2, 0, 100), start(1, 0), tick(5, 0, 100))
	if n, _ := raft.Last(c.Core(1)); n != 1 {
		t.Errorf("the node 1 was down, but has %d entries", n)
	}
	does(t, c, tick(1, 0, 0))
	if n, _ := raft.Last(c.Core(1)); n != 2 {
		t.Errorf("the node 1 is up, but has %d entries", n)
	}
}

// 23.1: ActStop, ActStart

func TestStopAndStart(t *testing.T) {
	c := led(t, 3)
	does(t, c, lay(0, add("p", "a ; b")), lay(0, open()), tick(2, 0, 0))
	s := stateOf(c)
	stays(t, c, start(1, 0), api.ErrThere)
	does(t, c, stop(1, 5))
	ups(t, c, 0, 2)
	stays(t, c, stop(1, 0), api.ErrDown)
	for _, a := range []api.Act{mask(1, 3), lay(1, "x"), room(1, 0), room(1, -1)} {
		stays(t, c, a, api.ErrDown)
	}
	s.up[1] = false
	same(t, "a node that is down is as it was last", stateOf(c), s)
	does(t, c, start(1, 4))
	ups(t, c, 0, 1, 2)
	core := c.Core(1)
	if core.Limit != 14 || core.Role != api.Follows || core.Lead != -1 || core.Term != s.cores[1].Term || !slices.Equal(core.Log, s.cores[1].Log) || core.Commit != 0 {
		t.Errorf("the node that started is %+v, was %+v", core, s.cores[1])
	}
	if m, i := raft.Members(core); m != 7 || i != 0 {
		t.Errorf("it has the members %d, %d", m, i)
	}
	does(t, c, tick(2, 0, 0))
	if c.Applied(1) != 3 || c.Saved(1) != c.Saved(0) {
		t.Errorf("%d came to the node that started, of %d", c.Applied(1), c.Applied(0))
	}
}

func TestStartWithATrip(t *testing.T) {
	c := led(t, 1)
	does(t, c, lay(0, "ab"), stop(0, 0), trip(0, 1, 0))
	for range 2 {
		does(t, c, start(0, 0)) // reads alone: no call is counted
		ups(t, c, 0)
		fails(t, c, lay(0, "cd"), api.ErrLead)
		for c.Up(0) {
			does(t, c, tick(1, 0, 0)) // it stands: its vote is put on the disk
		}
		if c.Now() > 42 || c.Core(0).Term != 1 {
			t.Fatalf("at %d the power failed, in the term %d", c.Now(), c.Core(0).Term)
		}
		does(t, c, trip(0, 1, 0))
	}
	does(t, c, start(0, 0), trip(0, 1000, 0), tick(20, 0, 0))
	ups(t, c, 0)
}

// 23.1: ActTrip, ActRoom

func TestTrip(t *testing.T) {
	c := led(t, 2)
	for _, n := range []int{0, -1, -1 << 63} {
		stays(t, c, trip(0, n, 5), api.ErrArg)
	}
	s := stateOf(c)
	does(t, c, trip(0, 1, 0))
	same(t, "a trip that waits", stateOf(c), s)
	fails(t, c, lay(0, "ab"), api.ErrDown)
	ups(t, c, 1)
	does(t, c, trip(1, 1, 0), trip(1, 1000, 0), tick(20, 0, 0))
	ups(t, c, 1)
	does(t, c, trip(1, 1, 0), tick(20, 0, 0))
	ups(t, c)
	does(t, c, start(0, 0), start(1, 1), trip(0, 2, 0), trip(1, 2, 0), tick(60, 0, 0))
	if c.Up(0) && c.Up(1) {
		t.Errorf("both are up, though the power was to fail")
	}
}

func TestTripKeeps(t *testing.T) {
	logs := map[int]int{}
	for keep := range 40 {
		c := led(t, 1)
		does(t, c, trip(0, 2, keep)) // at the Sync behind the Put
		fails(t, c, lay(0, "ab"), api.ErrDown)
		does(t, c, start(0, 0))
		n, _ := raft.Last(c.Core(0))
		logs[n]++
	}
	if logs[1] < 5 || logs[2] < 5 || len(logs) != 2 {
		t.Errorf("by what is kept the log goes up to: %v", logs)
	}
}

func TestRoom(t *testing.T) {
	c := led(t, 2)
	for _, n := range []int{api.MaxIndex + 1, 1<<63 - 1} {
		stays(t, c, room(0, n), api.ErrArg)
	}
	for _, n := range []int{api.MaxIndex, 100000, 0} {
		does(t, c, room(0, n))
	}
	fails(t, c, lay(0, "ab"), api.ErrFull)
	ups(t, c, 0, 1)
	fails(t, c, lay(0, "ab"), api.ErrLead) // it began anew
	for _, n := range []int{-1, -1 << 63} {
		c := led(t, 2)
		does(t, c, room(0, 0), room(0, n), lay(0, big(9999)))
	}
	does(t, c, stop(0, 0))
	stays(t, c, room(0, api.MaxIndex+1), api.ErrArg)
	stays(t, c, room(0, 0), api.ErrDown)
}

func TestRoomIsWhatTheFilesHaveAndMore(t *testing.T) {
	// The least room for a text is one more byte for each one more of it, whatever the files have.
	least := func(before, n int) int {
		for k := 0; ; k++ {
			c := led(t, 1)
			does(t, c, lay(0, big(before)), room(0, k))
			if c.Do(lay(0, big(n))) == api.OK {
				return k
			}
		}
	}
	if k := least(0, 50); k < 50 || k > 80 || least(200, 50) != k || least(200, 60) != k+10 {
		t.Errorf("the least room for 50 bytes is %d, behind 200 ones %d, for 60 %d", k, least(200, 50), least(200, 60))
	}
}

// 23.1: ActCut, ActLose, ActTwice

// asked is a cluster of three nodes of which each asked the others for their votes, at 10: the messages 1 to 6, which come at 15.
func asked(t *testing.T) *cluster.Cluster {
	t.Helper()
	c := begun(t, 3)
	does(t, c, tick(10, 0, 5))
	if c.Under() != 6 {
		t.Fatalf("%d messages are under way", c.Under())
	}
	return c
}

func TestCut(t *testing.T) {
	c := asked(t)
	does(t, c, cut(2, 2), cut(1, 1), cut(0, 1), tick(4, 0, 5))
	if c.Under() != 6 {
		t.Fatalf("%d messages are under way", c.Under())
	}
	does(t, c, tick(1, 0, 5))
	if c.Under() != 4 { // of those that came, 4 are answered
		t.Fatalf("%d messages are under way, of which none from 0 to 1", c.Under())
	}
	c = begun(t, 3)
	minus := cut(1, 0)
	minus.N = -7
	does(t, c, minus, tick(10, 0, 5))
	if c.Under() != 4 {
		t.Fatalf("%d messages are under way, of which none from 0 to 1", c.Under())
	}
	does(t, c, join(0, 1), tick(10, 0, 5))
	if c.Core(0).Role == api.Follows && c.Core(1).Role == api.Follows {
		t.Errorf("nobody stands")
	}
	c = led(t, 2)
	does(t, c, cut(0, 1), lay(0, "x"))
	if c.Under() != 0 {
		t.Errorf("a message is under way to one that is cut off")
	}
	does(t, c, join(1, 0), lay(0, "x"))
	if c.Under() != 1 {
		t.Errorf("no message is under way to one that is joined")
	}
}

func TestLose(t *testing.T) {
	c := asked(t)
	for _, n := range append(far(), 0, 7) {
		stays(t, c, lose(n), api.ErrNone)
	}
	for n := 1; n <= 6; n++ {
		does(t, c, lose(n))
		if c.Under() != 6-n {
			t.Errorf("behind %d lost ones %d messages are under way", n, c.Under())
		}
		stays(t, c, lose(n), api.ErrNone)
	}
	does(t, c, tick(9, 0, 5))
	for i := range 3 {
		if core := c.Core(i); core.Term != 1 || core.Role != api.Stands {
			t.Errorf("all is lost, but the node %d is %+v", i, core)
		}
	}
}

func TestTwice(t *testing.T) {
	c := asked(t)
	for _, n := range append(far(), 0, 7) {
		stays(t, c, twice(n, 0), api.ErrNone)
	}
	does(t, c, twice(2, 2), twice(7, 3)) // the messages 7 and 8, at 12 and 13
	if c.Under() != 8 {
		t.Errorf("%d messages are under way", c.Under())
	}
	does(t, c, lose(2), tick(2, 0, 50))
	stays(t, c, lose(7), api.ErrNone)
	if c.Under() != 7 { // an answer went out
		t.Errorf("%d messages are under way", c.Under())
	}
	does(t, c, lose(8))
	fails(t, c, twice(8, 0), api.ErrNone)
	does(t, c, cut(1, 2))
	stays(t, c, twice(4, 0), api.OK) // the number 0: nothing is sent
	c = asked(t)
	for n := 6; n < 4096; n++ {
		does(t, c, twice(1, 5))
	}
	stays(t, c, twice(1, 5), api.ErrFull)
	does(t, c, tick(5, 0, 1))
	if c.Under() == 0 || c.Under() > 4096 {
		t.Errorf("%d messages are under way", c.Under())
	}
}

// 23.1: ActMask, ActLay

func TestMask(t *testing.T) {
	c := led(t, 3)
	for _, n := range append(far(), 0, 128, 112) {
		stays(t, c, mask(0, n), api.ErrArg)
	}
	stays(t, c, mask(1, 3), api.ErrLead)
	does(t, c, later(mask(0, 15), 1))
	if c.Under() != 3 { // to the node 3, too, that is not there
		t.Errorf("%d messages are under way", c.Under())
	}
	stays(t, c, mask(0, 7), api.ErrBusy)
	does(t, c, tick(3, 0, 0))
	for i := range 3 {
		if m, _ := raft.Members(c.Core(i)); m != 15 {
			t.Errorf("the node %d knows the members %d", i, m)
		}
	}
	if c.Under() != 0 || c.Core(0).Commit != 2 {
		t.Errorf("%d messages are under way, %d entries agreed on", c.Under(), c.Core(0).Commit)
	}
	does(t, c, stop(2, 0), lay(0, "ab"), tick(5, 0, 0))
	if c.Core(0).Commit != 2 {
		t.Errorf("two of four were enough")
	}
}

func TestLay(t *testing.T) {
	c := led(t, 3)
	stays(t, c, lay(1, "ab"), api.ErrLead)
	stays(t, c, lay(0, big(api.MaxCmd+1)), api.ErrLong)
	does(t, c, later(lay(0, big(api.MaxCmd)), 2), later(lay(0, ""), 1), later(lay(0, add("p", "a")), 1))
	if c.Under() != 6 {
		t.Errorf("%d messages are under way", c.Under())
	}
	does(t, c, tick(5, 0, 0))
	for i := range 3 {
		if one(t, c.Saved(i)).Names()[0] != "p" || c.Applied(i) != 4 {
			t.Errorf("the node %d has %q, %d", i, c.Saved(i), c.Applied(i))
		}
	}
}

// 23.2: what is not there

func TestNothing(t *testing.T) {
	var none *cluster.Cluster
	var no *node.Node
	if none.Nodes() != 0 || none.Now() != 0 || none.Under() != 0 {
		t.Errorf("a nil cluster has %d nodes, is at %d, %d messages", none.Nodes(), none.Now(), none.Under())
	}
	for _, a := range all(1) {
		if e := none.Do(a); e != api.ErrArg {
			t.Errorf("a nil cluster does %s: %d", short(a), e)
		}
	}
	c := led(t, 3)
	does(t, c, lay(0, add("p", "a ; b")), follow(3, "p", 1), tick(1, 0, 0))
	nothing := func(c *cluster.Cluster, i int) {
		if core := c.Core(i); c.Up(i) || !reflect.DeepEqual(core, api.Core{}) || c.Saved(i) != no.Saved() || c.Applied(i) != 0 {
			t.Errorf("the node %d is %v, %+v, %q, %d", i, c.Up(i), core, c.Saved(i), c.Applied(i))
		}
	}
	for _, i := range append(far(), 3, 7, 9) {
		nothing(c, i)
	}
	for i := range 7 {
		nothing(none, i)
		if none.Teller(i) != nil || none.Reader(i) != nil || none.Waits(i) {
			t.Errorf("a nil cluster has clients %d: %v, %v, %v", i, none.Teller(i), none.Reader(i), none.Waits(i))
		}
	}
	for _, k := range append(far(), 4, 5) {
		if c.Teller(k) != nil || c.Reader(k) != nil || c.Waits(k) {
			t.Errorf("there are clients %d: %v, %v, %v", k, c.Teller(k), c.Reader(k), c.Waits(k))
		}
	}
	for k := range 4 {
		if c.Teller(k) == nil || (c.Reader(k) == nil) != (k < 3) || c.Waits(k) {
			t.Errorf("the clients %d: %v, %v, %v", k, c.Teller(k), c.Reader(k), c.Waits(k))
		}
	}
}

// R3

func TestNothingIsShared(t *testing.T) {
	c := led(t, 1)
	does(t, c, lay(0, "ab"), lay(0, "cd"))
	s := stateOf(c)
	core := c.Core(0)
	core.Log[0].Text, core.Log = "other", append(core.Log[:1], api.Entry{Term: 9})
	core.Next[0], core.Match[0] = 7, 7
	same(t, "a core that was handed out was changed", stateOf(c), s)
	e := of(1, "a")
	e.Fields = []api.Field{{Name: "x", V: api.Value{Kind: api.Whole, N: 1}}}
	does(t, c, tell(0, e))
	before := fmt.Sprint(stateOf(c).tellers)
	e.Fields[0].V.N = 2
	does(t, c, ask(0))
	if a, _ := c.Teller(0).Ask(); a.Text != told(4, 1, api.Event{Stamp: 1, Kind: "a", Fields: []api.Field{{Name: "x", V: api.Value{Kind: api.Whole, N: 1}}}}) {
		t.Errorf("the event was changed while it waits: %q, %s", a.Text, before)
	}
}
