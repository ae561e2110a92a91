package raft_test

import (
	"math/rand"
	"slices"
	"strings"
	"testing"

	"auspice/api"
	"auspice/bits"
	"auspice/raft"
)

// oracle is a node told by the words of chapter 16, one behind the other: its entries lie by their indexes, and councils are counted over all nodes.
type oracle struct {
	api.Core
	entries map[int]api.Entry
	last    int
	told    []api.Msg
}

func ofCore(c api.Core) *oracle {
	o := &oracle{Core: c, entries: map[int]api.Entry{}, last: c.Base.Index + len(c.Log)}
	for i, e := range c.Log {
		o.entries[c.Base.Index+1+i] = e
	}
	return o
}

func (o *oracle) core() api.Core {
	c := o.Core
	c.Log = nil
	for i := c.Base.Index + 1; i <= o.last; i++ {
		c.Log = append(c.Log, o.entries[i])
	}
	return c
}

// term is the term of an index, -1 of one that is not there.
func (o *oracle) term(i int) int {
	if i == o.Base.Index {
		return o.Base.Term
	}
	if e, ok := o.entries[i]; ok && i > o.Base.Index && i <= o.last {
		return e.Term
	}
	return -1
}

func (o *oracle) membersUpTo(last int) (mask, index int) {
	mask, index = o.Base.Mask, o.Base.Index
	for i := o.Base.Index + 1; i <= last; i++ {
		if o.entries[i].Kind == api.EntryMask {
			mask, index = o.entries[i].Mask, i
		}
	}
	return mask, index
}

func (o *oracle) members() (mask, index int) { return o.membersUpTo(o.last) }

func in(mask, i int) bool { return mask&(1<<i) != 0 }

func most(mask int, so func(i int) bool) bool {
	n, all := 0, 0
	for i := range 7 {
		if in(mask, i) {
			all++
			if so(i) {
				n++
			}
		}
	}
	return n > all-n
}

func (o *oracle) tell(m api.Msg) {
	m.From, m.Term = o.Me, o.Term
	o.told = append(o.told, m)
}

func (o *oracle) eachOther(do func(to int)) {
	mask, _ := o.members()
	for i := range 7 {
		if in(mask, i) && i != o.Me {
			do(i)
		}
	}
}

func (o *oracle) sendTo(to int) {
	if o.Next[to] <= o.Base.Index {
		o.tell(api.Msg{Kind: api.MsgSnap, To: to, Snap: o.Base})
		return
	}
	m := api.Msg{Kind: api.MsgLog, To: to, Index: o.Next[to] - 1, LogTerm: o.term(o.Next[to] - 1), Commit: o.Commit}
	bytes := 0
	for i := o.Next[to]; i <= o.last && len(m.Entries) < 16; i++ {
		bytes += len(o.entries[i].Text)
		if bytes > 32768 && len(m.Entries) > 0 {
			break
		}
		m.Entries = append(m.Entries, o.entries[i])
	}
	o.tell(m)
}

func (o *oracle) agree() {
	if o.Role != api.Leads {
		return
	}
	mask, index := o.members()
	for n := o.last; n > o.Commit; n-- {
		if most(mask, func(i int) bool { return i == o.Me || o.Match[i] >= n }) {
			if o.term(n) == o.Term {
				o.Commit = n
			}
			break
		}
	}
	if index <= o.Commit && !in(mask, o.Me) {
		o.Role, o.Lead = api.Follows, -1
	}
}

func (o *oracle) lead() {
	o.Role, o.Lead, o.Clock, o.Heard = api.Leads, o.Me, 0, 0
	o.Next, o.Match = all(o.last+1), all(0)
	if o.last < api.MaxIndex {
		o.lay(api.Entry{Term: o.Term, Kind: api.EntryNoop})
		return
	}
	o.eachOther(o.sendTo)
}

func (o *oracle) lay(e api.Entry) {
	o.last++
	o.entries[o.last] = e
	o.agree()
	o.eachOther(o.sendTo)
}

func (o *oracle) tick(draw int) {
	mask, index := o.members()
	o.Clock++
	if o.Role == api.Leads {
		if o.Clock >= 10 {
			if !most(mask, func(i int) bool { return i == o.Me || in(o.Heard, i) }) {
				o.Role, o.Lead = api.Follows, -1
			}
			o.Clock, o.Heard = 0, 0
		}
		if o.Role == api.Leads {
			o.eachOther(o.sendTo)
		}
		return
	}
	if o.Clock < o.Limit {
		return
	}
	for draw < 0 {
		draw += 11 * 1000
	}
	o.Clock, o.Heard, o.Limit = 0, 0, 10+draw%11
	if !in(mask, o.Me) && index <= o.Commit || o.Term == api.MaxIndex {
		return
	}
	o.Term++
	o.Vote, o.Votes, o.Role, o.Lead = o.Me, 1<<o.Me, api.Stands, -1
	if most(mask, func(i int) bool { return i == o.Me }) {
		o.lead()
	}
	o.eachOther(func(to int) {
		o.tell(api.Msg{Kind: api.MsgAsk, To: to, Index: o.last, LogTerm: o.term(o.last)})
	})
}

func (o *oracle) message(m api.Msg) {
	if m.Kind == api.MsgAsk && (o.Role == api.Leads || o.Lead != -1 && o.Clock < 10) {
		return
	}
	if m.Term < o.Term {
		if m.Kind == api.MsgAsk {
			o.tell(api.Msg{Kind: api.MsgVote, To: m.From})
		} else if m.Kind == api.MsgLog || m.Kind == api.MsgSnap {
			o.tell(api.Msg{Kind: api.MsgGot, To: m.From})
		}
		return
	}
	if m.Term > o.Term {
		o.Term, o.Vote, o.Lead, o.Role = m.Term, -1, -1, api.Follows
	}
	switch m.Kind {
	case api.MsgAsk:
		above := o.term(o.last) > m.LogTerm || o.term(o.last) == m.LogTerm && o.last > m.Index
		yes := !above && (o.Vote == -1 || o.Vote == m.From)
		if yes {
			o.Vote, o.Clock = m.From, 0
		}
		o.tell(api.Msg{Kind: api.MsgVote, To: m.From, Yes: yes})
	case api.MsgVote:
		mask, _ := o.members()
		if m.Yes && o.Role == api.Stands {
			o.Votes |= 1 << m.From
			if most(mask, func(i int) bool { return in(o.Votes, i) }) {
				o.lead()
			}
		}
	case api.MsgLog:
		o.Role, o.Lead, o.Clock = api.Follows, m.From, 0
		if yes, index := o.logged(m); index >= 0 {
			o.tell(api.Msg{Kind: api.MsgGot, To: m.From, Yes: yes, Index: index})
		}
	case api.MsgSnap:
		o.Role, o.Lead, o.Clock = api.Follows, m.From, 0
		if m.Snap.Index > o.Commit && m.Snap.Term <= o.Term {
			if o.term(m.Snap.Index) != m.Snap.Term {
				o.last = m.Snap.Index
			}
			o.Base, o.Commit = m.Snap, m.Snap.Index
			o.shorten()
		}
		o.tell(api.Msg{Kind: api.MsgGot, To: m.From, Yes: true, Index: o.Commit})
	case api.MsgGot:
		if o.Role == api.Leads {
			o.answered(m)
		}
	}
}

// logged is what a MsgLog comes to: yes or not, and the index, -1 where it is not answered.
func (o *oracle) logged(m api.Msg) (bool, int) {
	if m.Index < o.Base.Index {
		return true, o.Commit
	}
	if o.term(m.Index) != m.LogTerm {
		return false, max(o.Commit, min(o.last, m.Index-1))
	}
	end := m.Index + len(m.Entries)
	for k, e := range m.Entries {
		i := m.Index + 1 + k
		if i <= o.last && o.entries[i] == e {
			continue
		}
		if i <= o.Commit || end > api.MaxIndex {
			return false, -1
		}
		for j, term := k, o.term(i-1); j < len(m.Entries); j++ {
			if m.Entries[j].Term < term || m.Entries[j].Term > o.Term {
				return false, -1
			}
			term = m.Entries[j].Term
		}
		for j := k; j < len(m.Entries); j++ {
			o.entries[m.Index+1+j] = m.Entries[j]
		}
		o.last = end
		o.shorten()
		break
	}
	o.Commit = max(o.Commit, min(m.Commit, end))
	return true, end
}

func (o *oracle) shorten() {
	for i := range 7 {
		o.Next[i], o.Match[i] = min(o.Next[i], o.last+1), min(o.Match[i], o.last)
	}
}

func (o *oracle) answered(m api.Msg) {
	f := m.From
	o.Heard |= 1 << f
	if !m.Yes {
		next := min(o.Next[f], m.Index+1)
		if next <= o.Match[f] {
			next = o.Match[f] + 1
		}
		o.Next[f] = next
		o.sendTo(f)
		return
	}
	if m.Index > o.last {
		return
	}
	o.Match[f], o.Next[f] = max(o.Match[f], m.Index), max(o.Next[f], m.Index+1)
	o.agree()
	if o.Next[f] <= o.last {
		o.sendTo(f)
	}
}

func (o *oracle) step(x api.Input) api.Errno {
	mask, index := o.members()
	switch x.Kind {
	case api.InTick:
		o.tick(x.Draw)
	case api.InMsg:
		o.message(x.Msg)
	case api.InText:
		switch {
		case len(x.Text) > api.MaxCmd:
			return api.ErrLong
		case o.Role != api.Leads:
			return api.ErrLead
		case o.last == api.MaxIndex:
			return api.ErrLong
		}
		o.lay(api.Entry{Term: o.Term, Kind: api.EntryText, Text: x.Text})
	case api.InMask:
		apart := 0
		for i := range 7 {
			if in(mask, i) != in(x.Mask, i) {
				apart++
			}
		}
		switch {
		case x.Mask < 1 || x.Mask > 127 || mask == 0 || apart > 1:
			return api.ErrArg
		case o.Role != api.Leads:
			return api.ErrLead
		case index > o.Commit || o.term(o.Commit) != o.Term:
			return api.ErrBusy
		case o.last == api.MaxIndex:
			return api.ErrLong
		}
		o.lay(api.Entry{Term: o.Term, Kind: api.EntryMask, Mask: x.Mask})
	case api.InCut:
		switch {
		case x.Index <= o.Base.Index || x.Index > o.Commit:
			return api.ErrArg
		case len(x.Text) > api.MaxSnap:
			return api.ErrLong
		}
		mask, _ := o.membersUpTo(x.Index)
		o.Base = api.Snap{Index: x.Index, Term: o.term(x.Index), Mask: mask, Text: x.Text}
	}
	return api.OK
}

// randomEntry is an entry of a term.
func randomEntry(r *rand.Rand, term int) api.Entry {
	e := api.Entry{Term: term, Kind: []int{0, 0, 1, 2}[r.Intn(4)]}
	switch e.Kind {
	case api.EntryText:
		e.Text = []string{"", "a", "b", strings.Repeat("t", 12000)}[r.Intn(4)]
	case api.EntryMask:
		e.Mask = []int{1, 2, 3, 4, 5, 6, 7, 15, 127}[r.Intn(9)]
	}
	return e
}

// randomCore is a core that may be.
func randomCore(r *rand.Rand) api.Core {
	mask := func() int { return []int{0, 1, 2, 3, 4, 5, 6, 7, 15, 31, 127, r.Intn(128)}[r.Intn(12)] }
	c := api.Core{Me: r.Intn(3), Vote: r.Intn(5) - 1, Lead: r.Intn(4) - 1, Role: r.Intn(3), Clock: r.Intn(22), Limit: 1 + r.Intn(20), Votes: mask(), Heard: mask()}
	c.Base = api.Snap{Index: r.Intn(4), Term: r.Intn(3), Mask: mask(), Text: []string{"", "base"}[r.Intn(2)]}
	n := []int{0, 1, 2, 3, 4, 5, 6, 7, 20}[r.Intn(9)]
	if r.Intn(15) == 0 {
		c.Base.Index = api.MaxIndex - n - r.Intn(4)
	}
	term := c.Base.Term
	for range n {
		term += []int{0, 0, 0, 1, 2}[r.Intn(5)]
		c.Log = append(c.Log, randomEntry(r, term))
	}
	c.Term = term + []int{0, 0, 0, 1, 2}[r.Intn(5)]
	if r.Intn(20) == 0 {
		c.Term = api.MaxIndex
	}
	last := c.Base.Index + n
	near := func(least, most int) int { return max(least, most-r.Intn(9)) }
	c.Commit = near(c.Base.Index, last)
	for i := range c.Next {
		c.Next[i], c.Match[i] = near(1, last+1), near(0, last)
	}
	return c
}

// randomInput is something that may happen to a core, near what it knows.
func randomInput(r *rand.Rand, c api.Core) api.Input {
	x := api.Input{Kind: []int{0, 0, 1, 1, 1, 1, 1, 1, 2, 3, 4}[r.Intn(11)], Draw: r.Intn(60) - 30, Text: []string{"", "text"}[r.Intn(2)]}
	last, _ := raft.Last(c)
	index := func() int {
		return []int{min(api.MaxIndex, max(0, c.Base.Index-2+r.Intn(len(c.Log)+5))), min(last, api.MaxIndex), r.Intn(8)}[r.Intn(3)]
	}
	x.Index = c.Commit - r.Intn(4) + 1
	mask, _ := raft.Members(c)
	x.Mask = mask ^ 1<<r.Intn(8) ^ []int{0, 0, 0, 1}[r.Intn(4)]
	term := func() int { return min(api.MaxIndex, max(0, c.Term-2+r.Intn(4))) }
	of := func(i int) int {
		if e, ok := raft.At(c, i); ok && r.Intn(6) > 0 {
			return e.Term
		}
		return []int{c.Base.Term, term()}[r.Intn(2)]
	}
	m := api.Msg{Kind: 1 + r.Intn(5), To: c.Me, Term: []int{c.Term, c.Term, term()}[r.Intn(3)]}
	m.From = (c.Me + 1 + r.Intn(3)) % 7
	switch m.Kind {
	case api.MsgAsk:
		m.Index = index()
		m.LogTerm = of(m.Index)
	case api.MsgVote:
		m.Yes = r.Intn(3) > 0
	case api.MsgLog:
		m.Index, m.Commit = index(), index()
		m.LogTerm = of(m.Index)
		t := m.LogTerm
		for k := range []int{0, 1, 2, 3, 4, 16}[r.Intn(6)] {
			e, ok := raft.At(c, m.Index+1+k)
			if !ok || r.Intn(8) == 0 {
				t = min(api.MaxIndex, max(0, t+[]int{0, 0, 0, 0, 1, 1, 2, -1}[r.Intn(8)]))
				e = randomEntry(r, t)
			}
			m.Entries = append(m.Entries, e)
			t = e.Term
		}
	case api.MsgGot:
		m.Yes, m.Index = r.Intn(2) == 0, index()
	case api.MsgSnap:
		m.Snap = api.Snap{Index: index(), Mask: r.Intn(128), Text: "snap"}
		m.Snap.Term = of(m.Snap.Index)
	}
	x.Msg = m
	return x
}

// mayBe tells whether a core may be: a tick happens to it.
func mayBe(c api.Core) bool {
	_, _, e := raft.Step(c, api.Input{})
	return e == api.OK
}

// 16.2: what happens is what the words of the chapter say, of all kinds of cores and inputs; the core that comes of it may be, and so do the messages, rising.
func TestRandomSteps(t *testing.T) {
	r := rand.New(rand.NewSource(162))
	for i := range 40000 {
		c := randomCore(r)
		for k := range 4 {
			x := randomInput(r, c)
			was, wasIn := c, x.Msg
			was.Log, wasIn.Entries = slices.Clone(c.Log), slices.Clone(x.Msg.Entries)
			o := ofCore(c)
			want := o.step(x)
			d, sent, e := raft.Step(c, x)
			if !alike(c, []api.Msg{x.Msg}, was, []api.Msg{wasIn}) {
				t.Fatalf("%d, %d: what was handed in is changed", i, k)
			}
			if e != want {
				t.Fatalf("%d, %d: %v, want %v, of\n%s\n%+v", i, k, e, want, told(c, nil), x)
			}
			if e != api.OK {
				o = ofCore(c)
			}
			if !alike(d, sent, o.core(), o.told) {
				t.Fatalf("%d, %d: of\n     %s\n     %+v\n got %s\nwant %s", i, k, told(c, nil), x, told(d, sent), told(o.core(), o.told))
			}
			if !mayBe(d) {
				t.Fatalf("%d, %d: the core may not be:\n%s", i, k, told(d, nil))
			}
			for j, m := range sent {
				if !raft.Check(m) || m.From != c.Me || m.Term != d.Term || j > 0 && sent[j-1].To >= m.To {
					t.Fatalf("%d, %d: the message %d may not be:\n%s", i, k, j, told(d, sent))
				}
			}
			if last, term := raft.Last(d); last != o.last || term != o.term(last) {
				t.Fatalf("%d, %d: Last: %d, %d", i, k, last, term)
			}
			mask, index := raft.Members(d)
			if m, n := o.members(); mask != m || index != n {
				t.Fatalf("%d, %d: Members: %d, %d", i, k, mask, index)
			}
			c = d
		}
	}
}

// R1, R5: whatever is handed in, all calls end.
func TestAnyNumbers(t *testing.T) {
	r := rand.New(rand.NewSource(163))
	number := func() int {
		return []int{-1 << 63, 1<<63 - 1, -1, 0, 1, 2, 3, 7, 16, 127, 128, api.MaxIndex, api.MaxIndex + 1, int(r.Uint64())}[r.Intn(14)]
	}
	for range 30000 {
		c := randomCore(r)
		x := randomInput(r, c)
		for range r.Intn(4) {
			p := []*int{
				&c.Me, &c.Term, &c.Vote, &c.Role, &c.Lead, &c.Commit, &c.Clock, &c.Limit, &c.Votes, &c.Heard, &c.Next[r.Intn(7)], &c.Match[r.Intn(7)],
				&c.Base.Index, &c.Base.Term, &c.Base.Mask, &x.Kind, &x.Draw, &x.Index, &x.Mask, &x.Msg.Kind, &x.Msg.From, &x.Msg.To, &x.Msg.Term, &x.Msg.Index,
				&x.Msg.LogTerm, &x.Msg.Commit, &x.Msg.Snap.Index, &x.Msg.Snap.Term, &x.Msg.Snap.Mask,
			}
			*p[r.Intn(len(p))] = number()
		}
		d, sent, e := raft.Step(c, x)
		if e != api.OK && !alike(d, sent, c, nil) {
			t.Fatalf("an error changed something: %v, of %s, %+v", e, told(c, nil), x)
		}
		if e == api.OK && !mayBe(d) {
			t.Fatalf("the core may not be: %s, of %s, %+v", told(d, sent), told(c, nil), x)
		}
		raft.Last(c)
		raft.Members(c)
		raft.At(c, number())
		raft.New(c.Me, api.Vote{Term: c.Term, For: c.Vote}, c.Base, c.Log, x.Draw)
		raft.Check(x.Msg)
		raft.Write(x.Msg)
		raft.Read(bits.Num(uint64(number())) + bits.Num(uint64(number())))
	}
}
