package node_test

import (
	"fmt"
	"math"
	"math/rand"
	"slices"
	"testing"
	"unsafe"

	"auspice/api"
	"auspice/disk"
	"auspice/node"
	"auspice/raft"
	"auspice/seglog"
	"auspice/sm"
)

// 20.2

// A node alone leads at the tick of its Limit, with a Noop agreed on, and both are on the disk.
func TestAloneItLeads(t *testing.T) {
	for draw := range 22 {
		d := disk.New()
		n := opened(t, d, 4, 16, draw)
		for k := 1; k < 10+draw%11; k++ {
			happens(t, d, n, 16, tick)
			if c := n.Core(); c.Role != api.Follows || c.Clock != k || d.Calls() != 2 {
				t.Fatalf("at the tick %d of %d it is %+v; %d calls of the disk", k, 10+draw%11, c, d.Calls())
			}
		}
		happens(t, d, n, 16, api.Input{Draw: 7})
		c := n.Core()
		if c.Role != api.Leads || c.Term != 1 || c.Vote != 4 || c.Commit != 1 || !slices.Equal(c.Log, like(1, 1)) || c.Limit != 17 || n.Applied() != 1 {
			t.Fatalf("it does not lead: %+v", c)
		}
	}
}

func TestLay(t *testing.T) {
	d, n := leader(t)
	for i, x := range []struct {
		text string
		r    api.Reply
	}{
		{add("p", "a ; b"), api.Reply{N: 1}}, {open(), api.Reply{N: 3}}, {event(3, 1, 5, "a"), api.Reply{N: 1}}, {event(3, 2, 5, "b"), api.Reply{N: 2}},
		{event(3, 2, 9, "b"), api.Reply{N: 2}}, {event(3, 4, 9, "b"), api.Reply{Err: api.ErrGap}}, {"nothing", api.Reply{Err: api.ErrForm}}, {"", api.Reply{Err: api.ErrForm}},
		{big(api.MaxCmd), api.Reply{Err: api.ErrForm}}, {event(3, 3, 4, "b"), api.Reply{Err: api.ErrStamp}}, {forget("q", 0), api.Reply{Err: api.ErrNone}},
	} {
		index, term, e := n.Lay(x.text)
		if index != i+2 || term != 1 || e != api.OK {
			t.Fatalf("Lay: %d, %d, %d, want %d, 1", index, term, e, i+2)
		}
		tells(t, "Lay", n, nil, api.Done{Index: i + 2, Term: 1, R: x.r})
		tells(t, "once more", n, nil)
		kept(t, d, n, 1)
		if n.Applied() != i+2 {
			t.Fatalf("Applied is %d behind %d", n.Applied(), i+2)
		}
	}
	finds(t, n, "p", 0, 9, []api.Match{{Picks: []int{0, 1}}}, 1, api.OK)
	finds(t, n, "p", 1, 9, nil, 1, api.OK)
	finds(t, n, "p", 0, -1, nil, 0, api.ErrArg)
	finds(t, n, "q", 0, 9, nil, 0, api.ErrNone)
	m := machine(2, add("p", "a ; b"), open(), event(3, 1, 5, "a"), event(3, 2, 5, "b"))
	for i := 6; i <= 12; i++ {
		m.Apply(i, "")
	}
	if n.Saved() != m.Save() {
		t.Error("the machine is another one")
	}
	ok(t, lays(n, forget("p", 1)))
	finds(t, n, "p", 0, 9, nil, 1, api.ErrGone)
}

// lays is the error of Lay.
func lays(n *node.Node, text string) api.Errno {
	_, _, e := n.Lay(text)
	return e
}

// finds fails, if Matches does not answer that.
func finds(t *testing.T, n *node.Node, name string, from, most int, want []api.Match, next int, e api.Errno) {
	t.Helper()
	if l, k, f := n.Matches(name, from, most); fmt.Sprint(l) != fmt.Sprint(want) || k != next || f != e {
		t.Errorf("Matches(%s, %d, %d): %v, %d, %d, want %v, %d, %d", name, from, most, l, k, f, want, next, e)
	}
}

// What was told is told in order, and together, when nobody asks for it in between.
func TestSentAndDone(t *testing.T) {
	_, n := leader(t)
	want := []api.Done{}
	for i := range 5 {
		ok(t, lays(n, open()))
		want = append(want, api.Done{Index: i + 2, Term: 1, R: api.Reply{N: i + 2}})
	}
	tells(t, "five texts", n, nil, want...)
	ok(t, n.Change(3))
	ok(t, n.Tick(0))
	ok(t, lays(n, open()))
	l := n.Sent()
	if len(l) != 3 {
		t.Fatalf("%+v are sent", l)
	}
	for i, entries := range []int{7, 7, 8} {
		if m := l[i]; m.Kind != api.MsgLog || m.To != 1 || len(m.Entries) != entries {
			t.Fatalf("%+v is sent", m)
		}
	}
	tells(t, "not agreed on, as another one is to have it, too", n, nil)
	ok(t, n.Take(api.Msg{Kind: api.MsgGot, From: 1, Term: 1, Yes: true, Index: 8}))
	if done := n.Done(); !slices.Equal(done, []api.Done{{Index: 8, Term: 1, R: api.Reply{N: 8}}}) {
		t.Fatalf("%v are done", done)
	}
}

// refusesAll fails, if something that happens is not answered by these errors of raft, or leaves anything behind.
func refusesAll(t *testing.T, d *disk.Disk, n *node.Node, mask int, want map[api.Errno][]api.Input) {
	t.Helper()
	for e, l := range want {
		for _, in := range l {
			if h, o := comesOf(t, d, n, mask, in); h != refuses || o.e != e {
				t.Errorf("%.100v: %d, %d, want %d", in, h, o.e, e)
			}
		}
	}
}

func TestErrorsOfRaft(t *testing.T) {
	long := lay(big(api.MaxCmd + 1))
	mask := func(m int) api.Input { return api.Input{Kind: api.InMask, Mask: m} }
	wrong := []api.Input{takes(api.Msg{}), takes(api.Msg{Kind: api.MsgGot, From: 1, To: 2}), takes(api.Msg{Kind: api.MsgGot}), takes(api.Msg{Kind: 6, From: 1}),
		tell(-1, 0, 0, 0), tell(1, 0, 0, 0, like(1, 17)...), tell(1, 0, 0, 0, says(1, big(api.MaxCmd+1))), hand(1, api.Snap{Mask: 128}), hand(1, api.Snap{Text: big(api.MaxSnap + 1)})}
	masks := []api.Input{mask(0), mask(-1), mask(128), mask(math.MinInt), mask(math.MaxInt), mask(6)}
	d, n := alone(t)
	refusesAll(t, d, n, 1, map[api.Errno][]api.Input{api.ErrArg: slices.Concat(wrong, masks), api.ErrLead: {lay(""), lay(open()), mask(1), mask(3)}, api.ErrLong: {long}})
	d, n = leader(t)
	refusesAll(t, d, n, 1, map[api.Errno][]api.Input{api.ErrArg: slices.Concat(wrong, masks), api.ErrLong: {long}})
	happens(t, d, n, 1, mask(3))
	refusesAll(t, d, n, 1, map[api.Errno][]api.Input{api.ErrArg: {mask(4), mask(13)}, api.ErrBusy: {mask(1), mask(7)}, api.ErrLong: {long}})
	last := api.Snap{Index: api.MaxIndex, Term: 1, Mask: 1}
	d = said{api.Vote{Term: 1, For: -1}, last, api.MaxIndex, like(1, 1)}.disk(t)
	n = opened(t, d, 0, 1, 0)
	for range 10 {
		happens(t, d, n, 1, tick)
	}
	refusesAll(t, d, n, 1, map[api.Errno][]api.Input{api.ErrLong: {lay("")}})
}

// A snapshot that was sent is the machine from then on; what it stands for is not told as done.
func TestSnapshotThatWasSent(t *testing.T) {
	m := machine(2, add("p", "a ; b"), open(), event(3, 1, 5, "a"), event(3, 2, 5, "b"))
	base := api.Snap{Index: 9, Term: 2, Mask: 7, Text: m.Save()}
	d := disk.New()
	n := opened(t, d, 0, 7, 0)
	happens(t, d, n, 7, tell(1, 0, 0, 2, noop(1), says(1, open()), says(1, open())))
	happens(t, d, n, 7, hand(2, base))
	if n.Saved() != m.Save() || n.Applied() != 9 || n.Core().Base != base {
		t.Fatalf("it is %+v", n.Core())
	}
	finds(t, n, "p", 0, 9, []api.Match{{Picks: []int{0, 1}}}, 1, api.OK)
	// What is agreed on behind it comes.
	ok(t, n.Take(tell(2, 9, 2, 10, says(2, event(3, 3, 6, "b"))).Msg))
	if done := n.Done(); !slices.Equal(done, []api.Done{{Index: 10, Term: 2, R: api.Reply{N: 3}}}) {
		t.Errorf("%v are done", done)
	}
	finds(t, n, "p", 1, 9, []api.Match{}, 1, api.OK)
	kept(t, d, n, 7)
}

// A snapshot of which there is no machine, or behind which no log can begin, is on the disk as it came; the node goes no further.
func TestSnapshotThatIsNone(t *testing.T) {
	for _, base := range []api.Snap{{Index: 9, Term: 2, Mask: 7, Text: "x"}, {Index: 30, Term: 2, Mask: 7, Text: "\x00"}, {Index: 4, Term: 2, Mask: 7, Text: saved()}} {
		d := disk.New()
		n := opened(t, d, 0, 7, 0)
		happens(t, d, n, 7, tell(2, 0, 0, 1, noop(1), says(1, open())))
		if h := happens(t, d, n, 7, hand(2, base)); h != well || !n.Down() || n.Applied() != 1 {
			t.Errorf("it goes %d: %+v", h, n.Core())
		}
		isDown(t, n)
		refused(t, "a snapshot that is none", d, 0, 7, api.ErrForm)
	}
	d := disk.New()
	n := opened(t, d, 0, 7, 0)
	s := stateOf(n)
	is(t, "the last index", n.Take(hand(2, api.Snap{Index: api.MaxIndex, Term: 2, Mask: 7}).Msg), api.ErrDown)
	s.down = true
	stays(t, "the last index", n, s)
	isDown(t, n)
}

// The log is cut when 24 came since the last cut, not ahead of that.
func TestCut(t *testing.T) {
	d, n := leader(t)
	for i := 2; i <= 100; i++ {
		ok(t, lays(n, event(3, i, i, "a")))
		want := i / node.Long * node.Long
		c := n.Core()
		if c.Base.Index != want || c.Commit != i || len(c.Log) != i-want || n.Applied() != i || n.Down() {
			t.Fatalf("behind %d the core is %+v", i, c)
		}
		if want == i && (c.Base.Text != n.Saved() || c.Base.Term != 1 || c.Base.Mask != 1) {
			t.Fatalf("the snapshot is %v", c.Base)
		}
	}
	if l, _ := seglog.Open(d); l.First() < 48 || l.Next() != 101 {
		t.Errorf("the log on the disk is from %d to %d", l.First(), l.Next())
	}
	if len(n.Done()) != 99 {
		t.Error("not all was told")
	}
	// Opened anew it is at the snapshot; when it leads, the rest comes once more.
	n = opened(t, d, 0, 1, 0)
	if n.Applied() != 96 || n.Core().Commit != 96 || len(n.Core().Log) != 4 {
		t.Fatalf("opened anew it is %+v", n.Core())
	}
	leads(t, n)
	if done := n.Done(); len(done) != 4 || done[0].Index != 97 || done[3].Index != 100 {
		t.Errorf("%v are done", done)
	}
	if n.Core().Term != 2 || n.Applied() != 101 {
		t.Errorf("it leads, but is %+v", n.Core())
	}
}

// Where the disk is full, the node begins anew; what it told ahead is still to be had, and not told once more.
func TestFullDisk(t *testing.T) {
	d, n := leader(t)
	ok(t, lays(n, open()))
	ok(t, lays(n, add("p", "a")))
	d.Room(d.Used())
	old := n.Core()
	index, term, e := n.Lay(event(2, 1, 5, "a"))
	if index != 0 || term != 0 || e != api.ErrFull {
		t.Fatalf("Lay: %d, %d, %d", index, term, e)
	}
	c := n.Core()
	if n.Down() || c.Role != api.Follows || c.Lead != -1 || c.Term != 1 || c.Vote != 0 || c.Commit != 3 || n.Applied() != 3 || c.Clock != 0 || c.Limit != 10 || !slices.Equal(c.Log, old.Log) {
		t.Fatalf("it is %+v", c)
	}
	is(t, "it does not lead any more", lays(n, "x"), api.ErrLead)
	for range 9 {
		ok(t, n.Tick(0))
	}
	is(t, "it can't stand", n.Tick(5), api.ErrFull)
	if c := n.Core(); c.Term != 1 || c.Clock != 0 || c.Limit != 15 || c.Role != api.Follows || c.Commit != 3 {
		t.Fatalf("it is %+v", c)
	}
	d.Room(-1)
	for range 15 {
		ok(t, n.Tick(0))
	}
	ok(t, lays(n, event(2, 1, 5, "a")))
	tells(t, "with room again", n, nil, api.Done{Index: 2, Term: 1, R: api.Reply{N: 2}}, api.Done{Index: 3, Term: 1, R: api.Reply{N: 1}}, api.Done{Index: 5, Term: 2, R: api.Reply{N: 1}})
	finds(t, n, "p", 0, 9, []api.Match{{Picks: []int{0}}}, 1, api.OK)
	kept(t, d, n, 1)
}

// What is put ahead of there being no room stays on the disk.
func TestFullInBetween(t *testing.T) {
	d := three().disk(t)
	n := opened(t, d, 0, 7, 0)
	in := tell(4, 4, 2, 4, says(4, "x"), says(4, big(900)))
	d.Room(d.Used() + 200)
	if h := happens(t, d, n, 7, in); h != early {
		t.Fatalf("it goes %d", h)
	}
	if c := n.Core(); c.Term != 4 || c.Vote != -1 || c.Commit != 0 || len(c.Log) != 5 || c.Log[4] != says(4, "x") {
		t.Fatalf("it is %+v", c)
	}
	d.Room(-1)
	if h := happens(t, d, n, 7, in); h != well || n.Core().Commit != 4 {
		t.Fatalf("with room it goes %d", h)
	}
}

// There is room for a text, but none for what is to stand in the place of the log: nothing is told, and what came to the machine does not come once more.
func TestFullAtTheCut(t *testing.T) {
	d, n := leader(t)
	for range node.Long - 2 {
		ok(t, lays(n, open()))
	}
	n.Done()
	d.Room(d.Used() + 40)
	is(t, "a cut", lays(n, open()), api.ErrFull)
	for range 3 {
		tells(t, "a cut", n, nil)
		if c := n.Core(); n.Down() || c.Base.Index != 0 || len(c.Log) != node.Long || c.Commit != node.Long || n.Applied() != node.Long || c.Role != api.Follows || c.Clock != 0 {
			t.Fatalf("it is %+v", c)
		}
		is(t, "a cut once more", n.Tick(0), api.ErrFull)
	}
	d.Room(-1)
	ok(t, n.Tick(0))
	if c := n.Core(); c.Base.Index != node.Long || len(c.Log) != 0 || c.Base.Text != n.Saved() {
		t.Fatalf("with room it is %+v", c)
	}
	for range 9 {
		ok(t, n.Tick(0))
	}
	ok(t, lays(n, open()))
	tells(t, "with room", n, nil, api.Done{Index: 26, Term: 2, R: api.Reply{N: 26}})
	kept(t, d, n, 1)
}

// If it can't begin anew, it is down.
func TestFullAndNotAnew(t *testing.T) {
	d, n := leader(t)
	ok(t, lays(n, open()))
	s := stateOf(n)
	s.down = true
	d.Room(d.Used())
	ok(t, d.Put("vote", 0, "x")) // by somebody else
	is(t, "a text", lays(n, open()), api.ErrDown)
	tells(t, "what was told ahead", n, nil, api.Done{Index: 2, Term: 1, R: api.Reply{N: 2}})
	stays(t, "a text", n, s)
	isDown(t, n)
}

// 20.3

func TestDownItTellsWhatItTold(t *testing.T) {
	d, n := leader(t)
	ok(t, lays(n, add("p", "a")))
	ok(t, lays(n, open()))
	ok(t, lays(n, event(3, 1, 1, "a")))
	ok(t, n.Change(3))
	ok(t, n.Tick(0))
	s := stateOf(n)
	d.Fail(0)
	if n.Down() {
		t.Error("the node is down ahead of calling its disk")
	}
	ok(t, n.Tick(0)) // nothing is new on the disk
	s.core.Clock++
	is(t, "a text", lays(n, open()), api.ErrDown)
	s.down = true
	if done := n.Done(); len(done) != 3 {
		t.Errorf("%v are done", done)
	}
	if sent := n.Sent(); len(sent) != 3 {
		t.Errorf("%v are sent", sent)
	}
	stays(t, "a text", n, s)
	isDown(t, n)
	finds(t, n, "p", 0, 9, []api.Match{{Picks: []int{0}}}, 1, api.OK)
	finds(t, n, "q", 0, 9, nil, 0, api.ErrNone)
	d.Wake()
	isDown(t, n)
}

func TestNilNode(t *testing.T) {
	var n *node.Node
	for _, in := range []api.Input{tick, lay(""), lay(big(api.MaxCmd + 1)), {Kind: api.InMask, Mask: 1}, hand(1, api.Snap{})} {
		is(t, "a nil node", do(t, n, in, outcome{}), api.ErrArg)
	}
	if !n.Down() || n.Applied() != 0 || n.Saved() != sm.New().Save() || !alike(n.Core(), api.Core{}) || len(n.Sent())+len(n.Done()) != 0 {
		t.Error("a nil node knows something")
	}
	finds(t, n, "p", 0, 9, nil, 0, api.ErrArg)
	finds(t, n, "", -1, -1, nil, 0, api.ErrArg)
}

// R3: what is handed in is not kept, and what is handed out shares no memory.
func TestNothingIsShared(t *testing.T) {
	d := disk.New()
	n := opened(t, d, 0, 1, 0)
	m := tell(1, 0, 0, 0, noop(1), says(1, "some text"), says(1, "another one")).Msg
	ok(t, n.Take(m))
	m.Entries[0], m.Entries[1].Text = api.Entry{}, "x"
	c := n.Core()
	if !slices.Equal(c.Log, []api.Entry{noop(1), says(1, "some text"), says(1, "another one")}) {
		t.Fatalf("what was handed in was kept: %v", c.Log)
	}
	c.Log[1].Term, c.Next[0] = 9, 9
	again := n.Core()
	if again.Log[1].Term != 1 || again.Next[0] != 1 || unsafe.StringData(again.Log[1].Text) == unsafe.StringData(c.Log[1].Text) {
		t.Error("what is handed out is shared")
	}
	leads(t, n)
	ok(t, n.Change(3))
	n.Sent()
	ok(t, n.Take(api.Msg{Kind: api.MsgGot, From: 1, Term: 2, Index: 1}))
	ok(t, n.Take(api.Msg{Kind: api.MsgGot, From: 1, Term: 2, Index: 1}))
	l := n.Sent()
	if len(l) != 2 || len(l[0].Entries) != 4 || unsafe.StringData(l[0].Entries[0].Text) == unsafe.StringData(l[1].Entries[0].Text) {
		t.Fatalf("%v are sent", l)
	}
	l[0].Entries[0].Text = "y"
	if l[1].Entries[0].Text == "y" || n.Core().Log[1].Text == "y" {
		t.Error("what is handed out is shared")
	}
	kept(t, d, n, 1)
}

// R1: no argument lets a call panic. Whatever comes, the disk says what the core is, and it can be opened anew, unless it is down.
func TestAnyArguments(t *testing.T) {
	hows := map[how]int{}
	for seed := range 300 {
		r := rand.New(rand.NewSource(int64(seed)))
		d := three().disk(t)
		n := opened(t, d, 0, 7, r.Intn(11))
		for range 60 {
			hows[happens(t, d, n, 7, any(r))]++
			if n.Down() {
				break
			}
			if r.Intn(3) == 0 {
				d.Room(d.Used() + r.Intn(40))
			}
			if r.Intn(5) == 0 {
				d.Room(-1)
			}
		}
		if !n.Down() {
			opened(t, d, 0, 7, 0)
		}
	}
	if hows[well] < 5000 || hows[refuses] < 1000 || hows[early] < 100 {
		t.Errorf("too little happened: %v", hows)
	}
}

// any is something that happens, most of it near what may be.
func any(r *rand.Rand) api.Input {
	few := func(n int) int { return r.Intn(n) - r.Intn(40)/39 }
	switch r.Intn(8) {
	case 0, 1:
		return api.Input{Draw: int(r.Uint64())}
	case 2:
		return lay(big(r.Intn(9)))
	case 3:
		return api.Input{Kind: api.InMask, Mask: few(130)}
	}
	m := api.Msg{Kind: few(7), From: few(4), Term: few(12), Yes: r.Intn(3) == 0}
	if m.Kind != api.MsgVote && m.Kind != api.MsgSnap {
		m.Index = few(9)
	}
	switch m.Kind {
	case api.MsgAsk:
		m.Yes, m.LogTerm = false, few(9)
	case api.MsgLog:
		m.Yes, m.LogTerm, m.Commit = false, few(4), few(12)
		term := few(4)
		for range r.Intn(20) {
			term += r.Intn(12) / 11
			m.Entries = append(m.Entries, api.Entry{Term: term, Kind: few(3) / 2, Text: ""})
		}
	case api.MsgSnap:
		m.Yes, m.Snap = false, api.Snap{Index: few(30), Term: few(9), Mask: few(130)}
		if r.Intn(2) == 0 {
			m.Snap.Text = machine(1, open(), open()).Save()
		}
		if r.Intn(40) == 0 {
			m.Snap.Text = "x"
		}
	}
	return api.Input{Kind: api.InMsg, Msg: m}
}

// The members are those of the log on the disk, also where it was cut.
func TestMembersStay(t *testing.T) {
	d, n := leader(t)
	ok(t, n.Change(3))
	ok(t, n.Take(api.Msg{Kind: api.MsgGot, From: 1, Term: 1, Yes: true, Index: 2}))
	for i := 3; i <= 30; i++ {
		ok(t, lays(n, "x"))
		ok(t, n.Take(api.Msg{Kind: api.MsgGot, From: 1, Term: 1, Yes: true, Index: i}))
	}
	n = opened(t, d, 0, 1, 0)
	if mask, index := raft.Members(n.Core()); mask != 3 || index != 24 || n.Core().Base.Mask != 3 {
		t.Errorf("the members are %d, of %d", mask, index)
	}
}
