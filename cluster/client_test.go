package cluster_test

import (
	"testing"

	"auspice/api"
	"auspice/cluster"
)

// 23.1: ActTell, ActAsk

func TestExample(t *testing.T) {
	c := begun(t, 1)
	does(t, c, tick(20, 0, 0))
	if c.Core(0).Role != api.Leads {
		t.Fatalf("the node 0 is %+v", c.Core(0))
	}
	does(t, c, tell(0, of(5, "a")))
	tellers(t, c, 0, 0, 0, 1, 0, false)
	does(t, c, ask(0))
	tellers(t, c, 0, 2, 0, 1, 0, false)
	does(t, c, ask(0))
	tellers(t, c, 0, 2, 1, 0, -1, false)
	if one(t, c.Saved(0)).Count() != 1 || c.Applied(0) != 3 {
		t.Errorf("%d entries came, %q", c.Applied(0), c.Saved(0))
	}
}

func TestTell(t *testing.T) {
	c := led(t, 2)
	stays(t, c, tell(0, of(-1, "a")), api.ErrArg)
	stays(t, c, tell(0, of(1, "A")), api.ErrArg)
	for range 256 {
		does(t, c, tell(2, of(1, "a")))
	}
	stays(t, c, tell(2, of(1, "a")), api.ErrFull)
	stays(t, c, tell(2, of(-1, "a")), api.ErrArg)
	does(t, c, tell(0, of(1, "a")))
	for k, left := range []int{1, 0, 256, 0} {
		tellers(t, c, k, 0, 0, left, min(left, 1)-1, false)
	}
}

func TestAskOfNothing(t *testing.T) {
	c := led(t, 2)
	stays(t, c, ask(0), api.ErrNone)
	does(t, c, tell(1, of(1, "a")))
	stays(t, c, ask(0), api.ErrNone)
	does(t, c, ask(1))
	stays(t, c, ask(1), api.ErrBusy)
	tellers(t, c, 1, 0, 0, 1, 0, true)
}

func TestAskThatIsAnsweredLater(t *testing.T) {
	c := led(t, 3)
	does(t, c, tell(0, of(1, "a")), later(ask(0), 4))
	tellers(t, c, 0, 0, 0, 1, 0, true)
	if c.Under() != 2 {
		t.Errorf("%d messages are under way", c.Under())
	}
	does(t, c, tick(3, 0, 90))
	tellers(t, c, 0, 0, 0, 1, 0, true)
	does(t, c, tick(1, 0, 0)) // the messages come, and the answers at once
	tellers(t, c, 0, 2, 0, 1, 0, false)
	does(t, c, ask(0), tell(0, of(1, "b")), tick(1, 0, 0))
	tellers(t, c, 0, 2, 1, 1, 0, false)
}

func TestAskOfOneThatDoesNotLead(t *testing.T) {
	c := led(t, 3)
	does(t, c, tell(0, of(1, "a")))
	c.Teller(0).Late()
	tellers(t, c, 0, 0, 0, 1, 1, false)
	c.Teller(0).Late()
	fails(t, c, ask(0), api.ErrLead)
	tellers(t, c, 0, 0, 0, 1, 0, false) // whom the node 2 knows as the one that leads
	c = begun(t, 3)
	does(t, c, tell(0, of(1, "a")))
	for i := range 4 {
		tellers(t, c, 0, 0, 0, 1, i%3, false)
		fails(t, c, ask(0), api.ErrLead) // nobody is known
	}
}

func TestAskOfOneThatIsDown(t *testing.T) {
	c := led(t, 3)
	does(t, c, tell(0, of(1, "a")), stop(0, 0), stop(1, 0))
	for i := range 2 {
		tellers(t, c, 0, 0, 0, 1, i, false)
		fails(t, c, ask(0), api.ErrDown)
	}
	tellers(t, c, 0, 0, 0, 1, 2, false)
	fails(t, c, ask(0), api.ErrLead)
	tellers(t, c, 0, 0, 0, 1, 0, false)
}

func TestAskWithAnErrorOfTheDisk(t *testing.T) {
	c := led(t, 3)
	does(t, c, tell(0, of(1, "a")), tell(1, of(1, "b")), ask(1), room(0, 0))
	fails(t, c, ask(0), api.ErrFull)
	tellers(t, c, 0, 0, 0, 1, 1, false) // the node began anew, and knows nobody that leads
	tellers(t, c, 1, 0, 0, 1, 0, true)
	ups(t, c, 0, 1, 2)
	c = led(t, 3)
	does(t, c, tell(0, of(1, "a")), tell(1, of(1, "b")), ask(1), trip(0, 1, 0))
	fails(t, c, ask(0), api.ErrDown)
	tellers(t, c, 0, 0, 0, 1, 0, false) // as it was last, the node knows itself
	tellers(t, c, 1, 0, 0, 1, 1, false)
	ups(t, c, 1, 2)
}

// 23.1, Words: what tellers wait for

func TestStopWhileTellersWait(t *testing.T) {
	c := led(t, 3)
	does(t, c, tell(0, of(1, "a")), tell(1, of(1, "a")), tell(2, of(1, "a")), ask(0), ask(1))
	c.Teller(2).Late()
	does(t, c, stop(1, 0), stop(2, 0))
	tellers(t, c, 0, 0, 0, 1, 0, true)
	does(t, c, stop(0, 0))
	tellers(t, c, 0, 0, 0, 1, 1, false)
	tellers(t, c, 1, 0, 0, 1, 1, false)
	tellers(t, c, 2, 0, 0, 1, 1, false)
	does(t, c, tick(50, 0, 0))
	tellers(t, c, 0, 0, 0, 1, 1, false) // late but once
}

func TestPatience(t *testing.T) {
	c := led(t, 3)
	does(t, c, stop(1, 0), stop(2, 0), tell(0, of(1, "a")), tell(1, of(1, "a")), ask(0), tick(5, 0, 0), ask(1), tick(34, 0, 0))
	tellers(t, c, 0, 0, 0, 1, 0, true)
	does(t, c, tick(1, 0, 0))
	tellers(t, c, 0, 0, 0, 1, 1, false)
	does(t, c, tick(4, 0, 0))
	tellers(t, c, 1, 0, 0, 1, 0, true)
	does(t, c, tick(1, 0, 0))
	tellers(t, c, 1, 0, 0, 1, 1, false)
	tellers(t, c, 0, 0, 0, 1, 1, false)
}

// overwritten is a cluster at whose node 0 the tellers 0 and 1 wait for two entries in whose places others are agreed on, the second one being a command.
func overwritten(t *testing.T) *cluster.Cluster {
	t.Helper()
	c := led(t, 3)
	does(t, c, tell(0, of(1, "a")), tell(1, of(1, "a")), tell(2, of(1, "b")), cut(0, 1), cut(0, 2), ask(0), ask(1))
	for n := 0; c.Core(1).Role != api.Leads; n++ {
		if n == 30 {
			t.Fatalf("the node 1 does not lead: %+v", c.Core(1))
		}
		does(t, c, tick(1, 0, 0))
	}
	c.Teller(2).Late()
	does(t, c, ask(2), tick(1, 0, 0))
	tellers(t, c, 2, 3, 0, 1, 1, false)
	tellers(t, c, 0, 0, 0, 1, 0, true)
	tellers(t, c, 1, 0, 0, 1, 0, true)
	return c
}

func TestEntriesOfOtherTerms(t *testing.T) {
	c := overwritten(t)
	does(t, c, join(0, 1), tick(3, 0, 0))
	tellers(t, c, 0, 0, 0, 1, 0, true)  // what came there is no command
	tellers(t, c, 1, 0, 0, 1, 1, false) // late
	if c.Applied(0) != 3 || c.Core(0).Lead != 1 {
		t.Errorf("%d entries came to %+v", c.Applied(0), c.Core(0))
	}
	does(t, c, tick(40, 0, 0))
	tellers(t, c, 0, 0, 0, 1, 1, false)
}

func TestAnswersOfOtherNodes(t *testing.T) {
	// What comes to another node is not what a teller waits for.
	c := led(t, 3)
	does(t, c, tell(0, of(1, "a")), ask(0), tick(1, 0, 0), ask(0))
	does(t, c, later(lay(0, "x"), 9)) // the others hear of the entry that is asked for, the node 0 hears nothing of them
	does(t, c, cut(0, 1), cut(0, 2))
	does(t, c, tick(1, 0, 0))
	tellers(t, c, 0, 2, 0, 1, 0, true)
	c = led(t, 3)
	does(t, c, tell(0, of(1, "a")), ask(0), stop(0, 0), tell(1, of(1, "a")))
	for c.Core(1).Role != api.Leads {
		does(t, c, tick(1, 0, 0))
	}
	c.Teller(1).Late()
	does(t, c, ask(1), tick(3, 0, 0))
	tellers(t, c, 0, 0, 0, 1, 1, false)
	if id, _ := c.Teller(1).Session(); id == 0 || c.Waits(1) {
		t.Errorf("the teller 1 has no session, waits: %v", c.Waits(1))
	}
}

func TestAnswersThatAreErrors(t *testing.T) {
	c := led(t, 3)
	for range 32 {
		does(t, c, lay(0, open()))
	}
	does(t, c, tick(3, 0, 0), tell(0, of(1, "a")), ask(0), tick(1, 0, 0))
	tellers(t, c, 0, 0, 0, 1, 0, false) // too many sessions: it asks the one that leads
	does(t, c, lay(0, command(api.Cmd{Kind: api.CmdClose, ID: 2})), ask(0), tick(1, 0, 0))
	tellers(t, c, 0, 36, 0, 1, 0, false)
	does(t, c, lay(0, command(api.Cmd{Kind: api.CmdClose, ID: 36})), ask(0), tick(1, 0, 0))
	tellers(t, c, 0, 0, 0, 1, 0, false) // there is no session any more
	does(t, c, ask(0), tick(1, 0, 0), tell(0, of(0, "b")), ask(0), tick(1, 0, 0), ask(0), tick(1, 0, 0))
	if l := c.Teller(0).Refused(); len(l) != 1 || l[0].Kind != "b" || c.Teller(0).Left() != 0 {
		t.Errorf("refused: %v, %d wait", l, c.Teller(0).Left())
	}
}

// near is a cluster of three nodes whose node 0 leads, and cuts its log as the next entry is agreed on; at it the teller 0 waits for that entry.
func near(t *testing.T) *cluster.Cluster {
	t.Helper()
	c := led(t, 3)
	for range 22 {
		does(t, c, lay(0, "x"))
	}
	does(t, c, tick(2, 0, 0), tell(0, of(1, "a")), tell(1, of(1, "a")), ask(0))
	if c.Applied(0) != 23 || c.Core(0).Base.Index != 0 {
		t.Fatalf("%d came, of %+v", c.Applied(0), c.Core(0))
	}
	return c
}

func TestAnswersOfOneThatGoesDown(t *testing.T) {
	c := near(t)
	does(t, c, tick(1, 0, 0))
	tellers(t, c, 0, 24, 0, 1, 0, false)
	if c.Core(0).Base.Index != 24 {
		t.Fatalf("the log is not cut: %+v", c.Core(0))
	}
	c = near(t)
	does(t, c, ask(1), trip(0, 1, 0), tick(1, 0, 0))
	tellers(t, c, 0, 24, 0, 1, 0, false) // what came was told ahead of the cut
	tellers(t, c, 1, 0, 0, 1, 1, false)  // late
	ups(t, c, 1, 2)
	if c.Applied(0) != 24 || c.Core(0).Role != api.Leads {
		t.Errorf("%d came, of %+v", c.Applied(0), c.Core(0))
	}
}

// 23.1: ActFollow, ActRead

// found is a cluster of two nodes, the node 0 leading, that found so many matches of p, the node 1 too, if it is joined.
func found(t *testing.T, n int, joined bool) *cluster.Cluster {
	t.Helper()
	c := led(t, 2)
	does(t, c, lay(0, add("p", "a")), tick(3, 0, 0))
	for range n {
		does(t, c, tell(0, of(1, "a")))
	}
	for c.Teller(0).Left() > 0 {
		does(t, c, ask(0), tick(1, 0, 0))
	}
	if joined {
		does(t, c, tick(1, 0, 0))
	}
	return c
}

func TestFollow(t *testing.T) {
	c := found(t, 3, true)
	for _, name := range []string{"", "P", "a b", "abcdefghijklmnopq"} {
		stays(t, c, follow(0, name, 1), api.ErrArg)
	}
	for _, n := range []int{0, -1, -1 << 63} {
		stays(t, c, follow(0, "p", n), api.ErrArg)
	}
	stays(t, c, read(0), api.ErrNone)
	does(t, c, follow(0, "p", 2), follow(3, "p", 1<<63-1))
	readers(t, c, 0, 0, 0, 0)
	does(t, c, read(0))
	readers(t, c, 0, 0, 2, 0, 0, 1)
	stays(t, c, follow(0, "P", 1), api.ErrArg)
	does(t, c, read(0), read(0), read(3))
	readers(t, c, 0, 0, 3, 0, 0, 1, 2)
	readers(t, c, 3, 0, 3, 0, 0, 1, 2)
	does(t, c, follow(0, "p", 1))
	readers(t, c, 0, 0, 0, 0)
	if a, _ := c.Reader(0).Ask(); a != (api.Ask{Name: "p", Most: 1}) {
		t.Errorf("the reader 0 asks %+v", a)
	}
	readers(t, c, 3, 0, 3, 0, 0, 1, 2)
	for k := range 4 {
		if (c.Reader(k) == nil) != (k == 1 || k == 2) {
			t.Errorf("the reader %d: %v", k, c.Reader(k))
		}
	}
}

func TestRead(t *testing.T) {
	c := found(t, 3, true)
	does(t, c, follow(1, "q", 1))
	for i := range 3 {
		readers(t, c, 1, i%2, 0, 0)
		fails(t, c, read(1), api.ErrNone) // there is no such pattern
	}
}

func TestReadOfOneThatIsDown(t *testing.T) {
	c := found(t, 3, true)
	does(t, c, follow(2, "p", 9), stop(0, 0))
	fails(t, c, read(2), api.ErrDown)
	readers(t, c, 2, 1, 0, 0)
	does(t, c, read(2))
	readers(t, c, 2, 1, 3, 0, 0, 1, 2)
	does(t, c, stop(1, 0))
	fails(t, c, read(2), api.ErrDown)
	readers(t, c, 2, 0, 3, 0, 0, 1, 2)
}

func TestReadOfWhatIsGone(t *testing.T) {
	c := found(t, 5, true)
	does(t, c, follow(0, "p", 1), read(0), lay(0, command(api.Cmd{Kind: api.CmdForget, Name: "p", N: 3})), tick(2, 0, 0))
	fails(t, c, read(0), api.ErrGone)
	readers(t, c, 0, 0, 3, 2, 0)
	does(t, c, read(0), read(0), read(0))
	readers(t, c, 0, 0, 5, 2, 0, 3, 4)
}
