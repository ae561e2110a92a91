package node_test

import (
	"testing"

	"auspice/api"
	"auspice/disk"
	"auspice/node"
	"auspice/seglog"
)

// scene is something that happens to the node 0 on a disk, behind what happened to it ahead.
type scene struct {
	what  string
	said  said
	mask  int
	ahead []api.Input
	in    api.Input
	cut   bool // whether the log is cut then
	calls int  // of the disk: 3 for a vote, as for a snapshot; one for each piece that goes, one for each entry, and one behind these
}

// tick, lay and takes are what happens.
var tick = api.Input{Kind: api.InTick}

func lay(s string) api.Input { return api.Input{Kind: api.InText, Text: s} }

func takes(m api.Msg) api.Input { return api.Input{Kind: api.InMsg, Msg: m} }

// from is a message from the node 1 in a term.
func from(term int, m api.Msg) api.Input {
	m.From, m.Term = 1, term
	return takes(m)
}

// tell is a message of entries behind an index and its term.
func tell(term, index, logTerm, commit int, log ...api.Entry) api.Input {
	return from(term, api.Msg{Kind: api.MsgLog, Index: index, LogTerm: logTerm, Commit: commit, Entries: log})
}

// hand is a message of a snapshot.
func hand(term int, s api.Snap) api.Input { return from(term, api.Msg{Kind: api.MsgSnap, Snap: s}) }

// ticks are so many ticks.
func ticks(n int) (l []api.Input) {
	for range n {
		l = append(l, tick)
	}
	return l
}

// fills are ticks at whose end a node alone leads, and texts, so that the last index is n.
func fills(n int, text string) []api.Input {
	l := ticks(10)
	for range n - 1 {
		l = append(l, lay(text))
	}
	return l
}

// none is a disk that says nothing; three is one of a node of three, with a log of the term 2; long is one with entries in pieces of their own, of which the sixth one is agreed on.
func none() said { return said{vote: api.Vote{For: -1}} }
func three() said {
	return said{api.Vote{Term: 2, For: 2}, api.Snap{}, 1, append(like(1, 2), like(2, 3)...)}
}
func long() said {
	s := said{api.Vote{Term: 3, For: 1}, api.Snap{Index: 2, Term: 1, Mask: 7}, 1, like(1, 2)}
	for range 6 {
		s.log = append(s.log, says(2, big(600)))
	}
	return s
}

// scenes are all that may happen to a node which leaves something on its disk, and some that do not.
func scenes() []scene {
	two := big(600)
	base := api.Snap{Index: 6, Term: 2, Mask: 7, Text: machine(3, open(), event(3, 1, 9, "a")).Save()}
	other, above := base, base
	other.Term, above.Index, above.Term, above.Text = 3, 50, 3, ""
	full := api.Snap{Index: 6, Term: 2, Mask: 7}
	return []scene{
		{"a tick", none(), 7, nil, tick, false, 0},
		{"it stands", three(), 7, ticks(9), tick, false, 3},
		{"it leads, alone", none(), 1, ticks(9), tick, false, 5},
		{"it leads, alone, with a log, behind a loss of power", three(), 1, ticks(9), tick, false, 5},
		{"it is asked for a vote, and gives it", three(), 7, nil, from(3, api.Msg{Kind: api.MsgAsk, Index: 5, LogTerm: 2}), false, 3},
		{"it is asked for a vote, and gives none", three(), 7, nil, from(3, api.Msg{Kind: api.MsgAsk, Index: 4, LogTerm: 2}), false, 3},
		{"it is asked in a term that is past", three(), 7, nil, from(1, api.Msg{Kind: api.MsgAsk, Index: 9, LogTerm: 2}), false, 0},
		{"it is given a vote", three(), 7, ticks(10), from(3, api.Msg{Kind: api.MsgVote, Yes: true}), false, 2},
		{"it hears who leads", three(), 7, nil, tell(2, 5, 2, 0), false, 0},
		{"it hears of entries", three(), 7, nil, tell(2, 5, 2, 0, noop(2), says(2, "x"), says(2, two), says(2, "y")), false, 5},
		{"it hears of entries that it has", three(), 7, nil, tell(2, 1, 1, 0, noop(1), noop(2), noop(2)), false, 0},
		{"it hears of some that it has", three(), 7, nil, tell(2, 1, 1, 0, noop(1), noop(2), noop(2), noop(2), noop(2), says(2, "z")), false, 3},
		{"it hears of others, in a greater term", three(), 7, nil, tell(4, 3, 2, 0, noop(3), says(4, "x")), false, 7},
		{"it hears of fewer, others", three(), 7, nil, tell(4, 1, 1, 0, says(3, two)), false, 6},
		{"it hears of a gap", three(), 7, nil, tell(2, 6, 2, 0, noop(2)), false, 0},
		{"it hears what is agreed on", long(), 7, nil, tell(3, 8, 2, 7), false, 0},
		{"others in the place of long ones", long(), 7, nil, tell(3, 4, 2, 4, says(3, two), says(3, "x"), says(3, two)), false, 8},
		{"a snapshot, all of its log in the log", long(), 7, []api.Input{tell(3, 8, 2, 3)}, hand(3, base), false, 8},
		{"a snapshot in whose place another log is", long(), 7, []api.Input{tell(3, 8, 2, 3)}, hand(3, other), false, 11},
		{"a snapshot in a greater term", long(), 7, nil, hand(4, other), false, 14},
		{"a snapshot far above the log", long(), 7, nil, hand(3, above), false, 11},
		{"a snapshot without entries there", none(), 7, nil, hand(3, base), false, 8},
		{"a snapshot that is past", long(), 7, []api.Input{tell(3, 8, 2, 7)}, hand(3, base), false, 0},
		{"a snapshot of no text", long(), 7, []api.Input{tell(3, 8, 2, 4)}, hand(3, full), false, 8},
		{"a text, alone", none(), 1, fills(1, ""), lay(open()), false, 2},
		{"a text, not alone", three(), 7, append(ticks(10), from(3, api.Msg{Kind: api.MsgVote, Yes: true})), lay(open()), false, 2},
		{"a text that says no command", none(), 1, fills(1, ""), lay("nothing"), false, 2},
		{"other members", none(), 1, fills(3, open()), api.Input{Kind: api.InMask, Mask: 3}, false, 2},
		{"another one has it, too", three(), 7, append(ticks(10), from(3, api.Msg{Kind: api.MsgVote, Yes: true}), lay(open())), from(3, api.Msg{Kind: api.MsgGot, Yes: true, Index: 7}), false, 0},
		{"one ahead of a cut", none(), 1, fills(22, open()), lay(open()), false, 2},
		{"a cut", none(), 1, fills(23, open()), lay(open()), true, 5},
		{"a cut of long texts", none(), 1, fills(23, two), lay(two), true, 28},
		{"a cut behind a cut", none(), 1, append(fills(24, two), fills(25, open())[11:]...), lay(open()), true, 7},
		{"a cut by what is agreed on", said{api.Vote{Term: 3, For: 1}, api.Snap{}, 1, like(2, 30)}, 7, nil, tell(3, 30, 2, 29), true, 3},
		{"a cut by what comes, entries behind it", said{api.Vote{Term: 3, For: 1}, api.Snap{}, 1, append(like(2, 20), says(3, two))}, 7, nil, tell(4, 21, 3, 27, says(3, two), says(3, two), says(3, two), says(3, two), says(3, two), says(3, two), says(3, two)), true, 22},
		{"a cut at a Noop", said{api.Vote{Term: 3, For: 1}, api.Snap{}, 1, like(2, 23)}, 1, ticks(9), tick, true, 8},
		{"a cut at other members", none(), 1, fills(23, open()), api.Input{Kind: api.InMask, Mask: 1}, true, 5},
	}
}

// begin is a scene's disk and node, when all is there that is ahead.
func (s scene) begin(t *testing.T) (*disk.Disk, *node.Node) {
	t.Helper()
	d := disk.New()
	if s.said.first > 0 || s.said.base.Mask > 0 || s.said.vote.Term > 0 {
		d = s.said.disk(t)
	}
	n := opened(t, d, 0, s.mask, 0)
	for _, in := range s.ahead {
		if how := happens(t, d, n, s.mask, in); how != well {
			t.Fatalf("%s: what is ahead goes not well, but %d", s.what, how)
		}
	}
	return d, n
}

// 20.2: what happens, and what is put on the disk.
func TestScenes(t *testing.T) {
	for _, s := range scenes() {
		t.Run(s.what, func(t *testing.T) {
			d, n := s.begin(t)
			were, past := d.Calls(), n.Core().Base.Index
			if how := happens(t, d, n, s.mask, s.in); how != well {
				t.Errorf("it goes not well, but %d", how)
			}
			if calls := d.Calls() - were; calls != s.calls {
				t.Errorf("%d calls of the disk, want %d", calls, s.calls)
			}
			if cut := n.Core().Base.Index != past && s.in.Msg.Kind != api.MsgSnap; cut != s.cut {
				t.Errorf("the log is cut: %v, want %v", cut, s.cut)
			}
			again := opened(t, copied(t, d), 0, s.mask, 0)
			same(t, "opened anew", again.Core(), anew(t, d, 0, s.mask, 0, 0))
		})
	}
}

// first is the first index of the log on a disk.
func first(t *testing.T, d *disk.Disk) int {
	t.Helper()
	l, e := seglog.Open(copied(t, d))
	ok(t, e)
	return l.First()
}

// Only what a snapshot stands for goes from the log, piece by piece; a log that is another one goes as a whole.
func TestFirstOnTheDisk(t *testing.T) {
	for _, s := range scenes() {
		want := 1
		switch s.what {
		case "a snapshot in whose place another log is", "a snapshot in a greater term", "a snapshot without entries there", "a snapshot, all of its log in the log":
			want = 7
		case "a snapshot of no text":
			want = 7
		case "a snapshot far above the log":
			want = 51
		case "a cut of long texts":
			want = 24 // the last piece stays
		case "a cut behind a cut":
			want = 25
		case "a cut by what comes, entries behind it":
			want = 28
		}
		d, n := s.begin(t)
		happens(t, d, n, s.mask, s.in)
		if f := first(t, d); f != want {
			t.Errorf("%s: the log is from %d on, want %d", s.what, f, want)
		}
	}
}

// 20.2, 20.3: wherever the power fails, nothing is told that is not on the disk, and the node is down; opened anew it is as it was, or on the way to what was to be.
func TestScenesWithoutPower(t *testing.T) {
	for _, s := range scenes() {
		t.Run(s.what, func(t *testing.T) {
			last := early
			for at := 1; at <= s.calls; at++ {
				for k := 0; k < 1400; k += 1 + k/2 {
					d, n := s.begin(t)
					old := stateOf(n)
					d.Trip(at, k)
					how := happens(t, d, n, s.mask, s.in)
					if how != early && how != late || how < last || !n.Down() {
						t.Fatalf("the power fails at the call %d, %d kept: it goes %d, then %d", at, k, last, how)
					}
					last = how
					isDown(t, n)
					d.Wake()
					isDown(t, n)
					again := opened(t, d, 0, s.mask, 0)
					kept(t, d, again, s.mask)
					s.onTheWay(t, again.Core(), old)
					if at == 1 && k == 0 {
						s.same(t, again.Core(), old.core)
					}
				}
			}
			if (last == late) != s.cut {
				t.Errorf("in the end it goes %d", last)
			}
		})
	}
}

// isDown fails, if a node that is down does not answer so, or does not stay as it was.
func isDown(t *testing.T, n *node.Node) {
	t.Helper()
	s := stateOf(n)
	for _, in := range []api.Input{tick, lay("x"), lay(big(api.MaxCmd + 1)), {Kind: api.InMask}, takes(api.Msg{}), hand(9, api.Snap{Index: 9})} {
		is(t, "a node that is down", do(t, n, in, outcome{}), api.ErrDown)
	}
	if !n.Down() {
		t.Fatal("it is not down")
	}
	stays(t, "a node that is down", n, s)
}

// onTheWay fails, if a core that a disk says behind a loss of power, or a lack of room, takes back a vote, or what was agreed on, or has of a log what neither was there nor was to be there.
func (s scene) onTheWay(t *testing.T, c api.Core, old state) {
	t.Helper()
	o := becomes(t, old, s.in)
	if c.Term != old.core.Term && c.Term != o.end.core.Term || c.Term == old.core.Term && old.core.Vote != -1 && c.Vote != old.core.Vote {
		t.Fatalf("the vote is %d for %d", c.Term, c.Vote)
	}
	if c.Base != old.core.Base && c.Base != o.end.core.Base {
		t.Fatalf("the snapshot is %v", c.Base)
	}
	for i, x := range c.Log {
		at := c.Base.Index + 1 + i
		if x != atOf(old.core, at) && x != atOf(o.mid.core, at) {
			t.Fatalf("%v is the entry %d", x, at)
		}
	}
	for at := c.Base.Index + 1; at <= old.core.Commit; at++ {
		if atOf(c, at) != atOf(old.core, at) {
			t.Fatalf("the entry %d, which was agreed on, is %v", at, atOf(c, at))
		}
	}
}

// same fails, if a core has not the vote, the snapshot and the log that another one has.
func (s scene) same(t *testing.T, c, old api.Core) {
	t.Helper()
	if isNew(old, c) {
		t.Fatalf("nothing was kept, but something changed: %.500v, want %.500v", c, old)
	}
}

// atOf is the entry of an index, one of no kind, if there is none.
func atOf(c api.Core, i int) api.Entry {
	if i <= c.Base.Index || i > c.Base.Index+len(c.Log) {
		return api.Entry{Kind: -1}
	}
	return c.Log[i-c.Base.Index-1]
}

// 20.2: where the disk is full, nothing is told, and the node goes on with what is there; with room it is as if nothing had been.
func TestScenesWithoutRoom(t *testing.T) {
	seen := map[how]int{}
	for _, s := range scenes() {
		t.Run(s.what, func(t *testing.T) {
			last := early
			for room := 0; ; room += 1 + room/9 {
				d, n := s.begin(t)
				d.Room(d.Used() + room)
				old := stateOf(n)
				how := happens(t, d, n, s.mask, s.in)
				seen[how]++
				if how == well {
					break
				}
				if how < last || how == late && !s.cut || n.Down() || n.Applied() < old.applied {
					t.Fatalf("with room for %d it goes %d, then %d", room, last, how)
				}
				last = how
				s.onTheWay(t, n.Core(), old)
				// Full it stays, and what came does not come once more; with room it goes on.
				for range 3 {
					happens(t, d, n, s.mask, tick)
				}
				d.Room(-1)
				for range 40 {
					happens(t, d, n, s.mask, tick)
				}
				if n.Down() || s.mask == 1 && (n.Core().Role != api.Leads || n.Core().Commit != n.Applied() || n.Core().Base.Index+24 <= n.Applied()) {
					t.Fatalf("with room again it is %+v", n.Core())
				}
			}
		})
	}
	if seen[early] < 100 || seen[late] < 20 {
		t.Errorf("too little happened: %v", seen)
	}
}
