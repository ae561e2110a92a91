package raft_test

import (
	"fmt"
	"math"
	"reflect"
	"strings"
	"testing"
	"unsafe"

	"auspice/api"
	"auspice/raft"
)

// 16.2: cores

// noCores are changes that make the follower's core one that may not be.
func noCores() map[string]func(c *api.Core) {
	const top = api.MaxIndex
	l := map[string]func(c *api.Core){
		"Base.Term above Term":      func(c *api.Core) { c.Base.Term, c.Log, c.Commit, c.Next = 4, nil, 2, all(1) },
		"terms that fall":           func(c *api.Core) { c.Log = log("2 1 2 3") },
		"terms that fall later":     func(c *api.Core) { c.Log = log("1 2 3 2") },
		"terms below Base.Term":     func(c *api.Core) { c.Base.Term = 2 },
		"a term above Term":         func(c *api.Core) { c.Log = log("1 2 2 4") },
		"a last index above":        func(c *api.Core) { c.Base.Index, c.Commit = top-3, top },
		"a Commit below Base":       func(c *api.Core) { c.Commit = 1 },
		"a Commit above all":        func(c *api.Core) { c.Commit = 7 },
		"a Commit far above all":    func(c *api.Core) { c.Commit = math.MaxInt },
		"a Next of the last one, 2": func(c *api.Core) { c.Next[6] = 8 },
		"a Next 0":                  func(c *api.Core) { c.Next[0] = 0 },
		"a Next below 0":            func(c *api.Core) { c.Next[3] = math.MinInt },
		"a Match above all":         func(c *api.Core) { c.Match[6] = 7 },
		"a Match below 0":           func(c *api.Core) { c.Match[0] = -1 },
		"a Limit 0":                 func(c *api.Core) { c.Limit = 0 },
		"a zero core":               func(c *api.Core) { *c = api.Core{} },
	}
	for _, n := range []int{-1, 7, math.MinInt, math.MaxInt} {
		l[fmt.Sprint("Me ", n)] = func(c *api.Core) { c.Me = n }
	}
	for _, n := range []int{-2, 7, math.MinInt, math.MaxInt} {
		l[fmt.Sprint("Vote ", n)] = func(c *api.Core) { c.Vote = n }
		l[fmt.Sprint("Lead ", n)] = func(c *api.Core) { c.Lead = n }
	}
	for _, n := range []int{-1, 3, math.MinInt, math.MaxInt} {
		l[fmt.Sprint("Role ", n)] = func(c *api.Core) { c.Role = n }
	}
	for _, n := range []int{-1, 128, math.MinInt, math.MaxInt} {
		l[fmt.Sprint("Votes ", n)] = func(c *api.Core) { c.Votes = n }
		l[fmt.Sprint("Heard ", n)] = func(c *api.Core) { c.Heard = n }
	}
	for _, n := range []int{-1, top + 1, math.MinInt, math.MaxInt} {
		l[fmt.Sprint("Term ", n)] = func(c *api.Core) { c.Term = n }
		l[fmt.Sprint("Clock ", n)] = func(c *api.Core) { c.Clock = n }
		l[fmt.Sprint("Limit ", n)] = func(c *api.Core) { c.Limit = n }
	}
	for i, e := range noEntries() {
		l[fmt.Sprint("the entry ", i)] = func(c *api.Core) { c.Log[1+i%3] = e }
	}
	for i, s := range noSnaps() {
		l[fmt.Sprint("the snapshot ", i)] = func(c *api.Core) {
			c.Base, c.Log, c.Next, c.Match = s, nil, all(1), all(0)
			c.Commit = s.Index
		}
	}
	return l
}

func TestCoresThatMayNotBe(t *testing.T) {
	inputs := []api.Input{{}, {Kind: api.InText}, {Kind: api.InMask, Mask: 7}, {Kind: api.InCut, Index: 3}, {Kind: -1}, comes(ask(0, 6, 3))}
	for what, change := range noCores() {
		for _, c := range []api.Core{follower(), leader()} {
			change(&c)
			for _, in := range inputs {
				errs(t, fmt.Sprint(what, ", at ", in.Kind), c, in, api.ErrArg)
			}
			raft.Last(c)
			raft.Members(c)
			for _, i := range []int{0, 1, 2, 3, 7, math.MinInt, math.MaxInt, c.Base.Index, c.Base.Index + 1} {
				raft.At(c, i)
			}
		}
	}
}

// edges are changes that leave the follower's core one that may be.
func edges() map[string]func(c *api.Core) {
	const top = api.MaxIndex
	return map[string]func(c *api.Core){
		"nothing":           nothing,
		"the node 6":        func(c *api.Core) { c.Me = 6 },
		"Vote and Lead":     func(c *api.Core) { c.Vote, c.Lead = 6, 6 },
		"Base.Term as Term": func(c *api.Core) { c.Base.Term, c.Log, c.Commit, c.Next = 3, nil, 2, all(1) },
		"like terms":        func(c *api.Core) { c.Log = log("1 1 1 1") },
		"the greatest numbers": func(c *api.Core) {
			c.Term, c.Base.Index, c.Commit, c.Clock, c.Limit = top, top-4, top, top, top
			c.Votes, c.Heard, c.Next, c.Match = 127, 127, all(top+1), all(top)
		},
		"the least numbers": func(c *api.Core) {
			*c = api.Core{Vote: -1, Lead: -1, Limit: 1, Next: all(1)}
		},
		"the last Commit":   func(c *api.Core) { c.Commit = 6 },
		"the first Commit":  func(c *api.Core) { c.Commit = 2 },
		"the greatest text": func(c *api.Core) { c.Log[3].Text = strings.Repeat("t", 1<<15) },
		"the greatest snap": func(c *api.Core) { c.Base.Text, c.Base.Mask = strings.Repeat("s", 1<<18), 127 },
		"no log": func(c *api.Core) {
			c.Log, c.Commit, c.Next, c.Match = []api.Entry{}, 2, all(3), all(2)
		},
	}
}

func TestCoresThatMayBe(t *testing.T) {
	for what, change := range edges() {
		for _, c := range []api.Core{follower(), leader()} {
			change(&c)
			if _, _, e := raft.Step(c, api.Input{}); e != api.OK {
				t.Errorf("%s: %v", what, e)
			}
		}
	}
}

func TestInputsThatMayNotBe(t *testing.T) {
	for _, c := range []api.Core{follower(), leader()} {
		for _, kind := range []int{-1, 5, 6, math.MinInt, math.MaxInt} {
			errs(t, "no kind", c, api.Input{Kind: kind, Mask: 7, Index: 3, Msg: ask(0, 6, 3)}, api.ErrArg)
		}
		for _, m := range noMessages() {
			m.To = 0
			if m.From != 0 && !raft.Check(m) {
				errs(t, "a message that may not be", c, api.Input{Kind: api.InMsg, Msg: m}, api.ErrArg)
			}
		}
		errs(t, "no message", c, api.Input{Kind: api.InMsg}, api.ErrArg)
		for to := 2; to < 7; to++ {
			errs(t, "to another one", c, comes(api.Msg{Kind: api.MsgAsk, To: to, Term: 9, Index: 9, LogTerm: 9}), api.ErrArg)
			errs(t, "to another one", c, comes(api.Msg{Kind: api.MsgVote, To: to, Term: 2}), api.ErrArg)
		}
		// What an input's kind does not name counts for nothing.
		in := api.Input{Kind: api.InTick, Draw: 3, Index: -5, Mask: 500, Text: strings.Repeat("t", 1<<20), Msg: noMessages()[0]}
		got, sent, e := raft.Step(c, in)
		want, also, _ := raft.Step(c, api.Input{Draw: 3})
		if e != api.OK || !alike(got, sent, want, also) {
			t.Errorf("a tick with other things: %v", e)
		}
	}
}

// 16.2: New

func TestNew(t *testing.T) {
	base := api.Snap{Index: 2, Term: 1, Mask: 7, Text: "base"}
	for draw, limit := range map[int]int{0: 10, 1: 11, 10: 20, 11: 10, 25: 13, -1: 20, -11: 10, -12: 20, math.MaxInt: 10 + math.MaxInt%11, math.MinInt: 10 + (math.MinInt%11+11)%11} {
		c, e := raft.New(3, api.Vote{Term: 4, For: 2}, base, log("1 3:a 4/3"), draw)
		want := api.Core{Me: 3, Term: 4, Vote: 2, Lead: -1, Base: base, Log: log("1 3:a 4/3"), Commit: 2, Limit: limit, Next: all(1)}
		if e != api.OK || !alike(c, nil, want, nil) {
			t.Errorf("New with the draw %d: %+v, %v", draw, c, e)
		}
	}
	c, e := raft.New(0, api.Vote{For: -1}, api.Snap{Mask: 1}, nil, 0)
	if want := (api.Core{Vote: -1, Lead: -1, Base: api.Snap{Mask: 1}, Limit: 10, Next: all(1)}); e != api.OK || !alike(c, nil, want, nil) {
		t.Errorf("New of nothing: %+v, %v", c, e)
	}
}

func TestNewOfWhatMayNotBe(t *testing.T) {
	fails := func(what string, me int, v api.Vote, base api.Snap, l []api.Entry) {
		t.Helper()
		if c, e := raft.New(me, v, base, l, 3); e != api.ErrArg || !reflect.DeepEqual(c, api.Core{}) {
			t.Errorf("%s: %+v, %v", what, c, e)
		}
	}
	v := api.Vote{Term: 3, For: -1}
	for _, me := range []int{-1, 7, math.MinInt, math.MaxInt} {
		fails("no node", me, v, api.Snap{Mask: 1}, nil)
	}
	for _, v := range []api.Vote{{Term: -1}, {Term: api.MaxIndex + 1}, {For: -2}, {For: 7}, {For: math.MaxInt}, {Term: math.MinInt}} {
		fails("no vote", 0, v, api.Snap{Mask: 1}, nil)
	}
	for _, s := range noSnaps() {
		fails("no snapshot", 0, api.Vote{Term: api.MaxIndex}, s, nil)
	}
	for _, e := range noEntries() {
		fails("no entry", 0, api.Vote{Term: api.MaxIndex}, api.Snap{Mask: 1}, append(log("0"), e))
	}
	fails("a snapshot above the term", 0, v, api.Snap{Term: 4, Mask: 1}, nil)
	fails("an entry above the term", 0, v, api.Snap{Mask: 1}, log("1 4"))
	fails("an entry below the snapshot", 0, v, api.Snap{Term: 2, Mask: 1}, log("1 3"))
	fails("terms that fall", 0, v, api.Snap{Mask: 1}, log("1 3 2"))
	fails("too many entries", 0, v, api.Snap{Index: api.MaxIndex, Mask: 1}, log("1"))
	if _, e := raft.New(0, v, api.Snap{Index: api.MaxIndex - 1, Term: 3, Mask: 1}, log("3"), 3); e != api.OK {
		t.Errorf("as many entries as there may be: %v", e)
	}
}

// 16.2: Last, At, Members

func TestLast(t *testing.T) {
	c := follower()
	if i, term := raft.Last(c); i != 6 || term != 3 {
		t.Errorf("Last: %d, %d", i, term)
	}
	c.Log = nil
	if i, term := raft.Last(c); i != 2 || term != 1 {
		t.Errorf("Last without a log: %d, %d", i, term)
	}
	if i, term := raft.Last(api.Core{}); i != 0 || term != 0 {
		t.Errorf("Last of nothing: %d, %d", i, term)
	}
	c = follower()
	c.Base.Index = math.MaxInt - 1
	if i, _ := raft.Last(c); i != math.MaxInt {
		t.Errorf("Last beyond all numbers: %d", i)
	}
}

func TestAt(t *testing.T) {
	c := follower()
	for i := range 4 {
		if e, ok := raft.At(c, 3+i); !ok || e != c.Log[i] {
			t.Errorf("At(%d): %v, %v", 3+i, e, ok)
		}
	}
	for _, i := range []int{-1, 0, 1, 2, 7, 8, math.MinInt, math.MaxInt} {
		if e, ok := raft.At(c, i); ok || e != (api.Entry{}) {
			t.Errorf("At(%d): %v, %v", i, e, ok)
		}
	}
	for _, far := range []int{math.MinInt, math.MaxInt, math.MaxInt - 2} {
		c.Base.Index = far
		for _, i := range []int{math.MinInt, math.MinInt + 1, -1, 0, 1} {
			if _, ok := raft.At(c, i); ok != (far == math.MinInt && i == far+1) {
				t.Errorf("At(%d) behind %d: %v", i, far, ok)
			}
		}
	}
}

func TestMembers(t *testing.T) {
	for s, want := range map[string][2]int{"": {7, 2}, "1 2:a": {7, 2}, "1/3": {3, 3}, "1 2/5 2:a": {5, 4}, "1/3 2/5 2:a 3/1 3 3:b": {1, 6}} {
		c := follower()
		c.Log = log(s)
		if mask, index := raft.Members(c); mask != want[0] || index != want[1] {
			t.Errorf("Members of %q: %d, %d", s, mask, index)
		}
	}
}

// R3: what is answered shares no memory with what was handed in, nor with anything else that is answered.

// places are where a core's and messages' texts and lists lie.
func places(c api.Core, l []api.Msg) map[any]string {
	m := map[any]string{}
	put := func(what string, p any) {
		if other, there := m[p]; there {
			m[p] = other + " and " + what
			return
		}
		m[p] = what
	}
	entries := func(what string, l []api.Entry) {
		if len(l) == 0 {
			return
		}
		for i := range l[:cap(l)] {
			put(fmt.Sprint(what, " ", i), &l[:cap(l)][i])
		}
		for _, e := range l {
			if e.Text != "" {
				put(what+", a text", unsafe.StringData(e.Text))
			}
		}
	}
	entries("the log", c.Log)
	if c.Base.Text != "" {
		put("the base", unsafe.StringData(c.Base.Text))
	}
	for i, m := range l {
		entries(fmt.Sprint("the message ", i), m.Entries)
		if m.Snap.Text != "" {
			put(fmt.Sprint("the snapshot of the message ", i), unsafe.StringData(m.Snap.Text))
		}
	}
	return m
}

func TestMemory(t *testing.T) {
	inputs := map[string]api.Input{
		"a tick":      {},
		"a text":      {Kind: api.InText, Text: "text"},
		"members":     {Kind: api.InMask, Mask: 3},
		"a cut":       {Kind: api.InCut, Index: 4, Text: "text"},
		"no input":    {Kind: 9},
		"entries":     comes(logs(0, 4, 2, 4, "3:x 3:y")),
		"the same":    comes(logs(0, 4, 2, 4, "2:b 3:c")),
		"a snapshot":  comes(snap(0, api.Snap{Index: 5, Term: 2, Mask: 7, Text: "snap"})),
		"an answer":   comes(got(0, true, 5)),
		"a no":        comes(got(0, false, 3)),
		"an old base": comes(got(0, false, 0)),
	}
	for what, in := range inputs {
		for _, c := range []api.Core{follower(), leader(), {Base: api.Snap{Text: "base"}, Log: log("1:a")}} {
			c.Log = append(make([]api.Entry, 0, 20), c.Log...)
			c.Next = numbers{7, 3, 1, 7, 7, 7, 7}
			was, wasIn := fmt.Sprint(c, c.Log[:20]), fmt.Sprint(in)
			d, sent, _ := raft.Step(c, in)
			given := places(c, []api.Msg{in.Msg})
			if in.Text != "" {
				given[unsafe.StringData(in.Text)] = "the text"
			}
			for p, name := range places(d, sent) {
				if strings.Contains(name, " and ") {
					t.Errorf("%s: one memory for %s", what, name)
				}
				if other, there := given[p]; there {
					t.Errorf("%s: %s is in the memory of %s", what, name, other)
				}
			}
			if fmt.Sprint(c, c.Log[:20]) != was || fmt.Sprint(in) != wasIn {
				t.Errorf("%s: what was handed in is changed", what)
			}
		}
	}
	l, base := log("1:a 1:b"), api.Snap{Mask: 1, Text: "base"}
	c, _ := raft.New(0, api.Vote{Term: 1}, base, l, 0)
	given := places(api.Core{Base: base, Log: l}, nil)
	for p, name := range places(c, nil) {
		if given[p] != "" {
			t.Errorf("New: %s is kept", name)
		}
	}
	if e, _ := raft.At(c, 1); unsafe.StringData(e.Text) == unsafe.StringData(c.Log[0].Text) {
		t.Error("At: the text is shared")
	}
}
