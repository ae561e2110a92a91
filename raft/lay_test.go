package raft_test

import (
	"math"
	"strings"
	"testing"

	"auspice/api"
)

// 16.2: what is handed in to be laid, or cut

func TestAText(t *testing.T) {
	c := leader()
	c.Next[1] = 4
	in := api.Input{Kind: api.InText, Text: "text"}
	happens(t, "a text", c, in, func(c *api.Core) { c.Log = log("1 2:a 2:b 3:c 3:text") }, logs(1, 3, 1, 4, "2:a 2:b 3:c 3:text"), logs(2, 6, 3, 4, "3:text"))
	in.Text = ""
	happens(t, "an empty text", c, in, func(c *api.Core) { c.Log = log("1 2:a 2:b 3:c 3:") }, logs(1, 3, 1, 4, "2:a 2:b 3:c 3:"), logs(2, 6, 3, 4, "3:"))
	c.Base.Mask = 1
	happens(t, "a text of one alone", c, in, func(c *api.Core) { c.Log, c.Commit = log("1 2:a 2:b 3:c 3:"), 7 })
	in.Text = strings.Repeat("t", 1<<15)
	c.Base.Mask, c.Next = 3, all(7)
	happens(t, "a long text", c, in, func(c *api.Core) { c.Log = log("1 2:a 2:b 3:c 3:" + in.Text) }, logs(1, 6, 3, 4, "3:"+in.Text))
	c.Match = all(6)
	happens(t, "what others have is found out", c, in, func(c *api.Core) { c.Log, c.Commit = log("1 2:a 2:b 3:c 3:"+in.Text), 6 }, logs(1, 6, 3, 6, "3:"+in.Text))
	c.Base.Mask = 6
	happens(t, "a text of no member", c, in, func(c *api.Core) {
		c.Log, c.Commit, c.Role, c.Lead = log("1 2:a 2:b 3:c 3:"+in.Text), 6, api.Follows, -1
	}, logs(1, 6, 3, 6, "3:"+in.Text), logs(2, 6, 3, 6, "3:"+in.Text))
}

func TestATextThatIsNotLaid(t *testing.T) {
	const top = api.MaxIndex
	short, long := api.Input{Kind: api.InText, Text: "text"}, api.Input{Kind: api.InText, Text: strings.Repeat("t", 1<<15+1)}
	standing := follower()
	standing.Role = api.Stands
	for _, c := range []api.Core{follower(), standing} {
		c.Lead = 0
		errs(t, "a long text for one that does not lead", c, long, api.ErrLong)
		errs(t, "a text for one that does not lead", c, short, api.ErrLead)
		c.Base.Index, c.Commit = top-4, top
		errs(t, "a text for one that does not lead, and has all indexes", c, short, api.ErrLead)
	}
	c := leader()
	errs(t, "a long text", c, long, api.ErrLong)
	c.Base.Index, c.Commit = top-4, top
	errs(t, "a text behind the last index", c, short, api.ErrLong)
	c.Base.Index, c.Commit = top-5, top-1
	happens(t, "a text at the last index", c, short, func(c *api.Core) { c.Log = log("1 2:a 2:b 3:c 3:text") }, snap(1, c.Base), snap(2, c.Base))
}

func TestMembersThatAreLaid(t *testing.T) {
	c := leader()
	c.Commit = 6
	lays := func(what string, mask int, s string, commit int, to ...int) {
		t.Helper()
		var want []api.Msg
		for _, i := range to {
			m := logs(i, 6, 3, commit, "")
			m.Entries = []api.Entry{{Term: 3, Kind: api.EntryMask, Mask: mask}}
			want = append(want, m)
		}
		happens(t, what, c, api.Input{Kind: api.InMask, Mask: mask}, func(c *api.Core) { c.Log, c.Commit = log(s), commit }, want...)
	}
	lays("one more", 15, "1 2:a 2:b 3:c 3/15", 6, 1, 2, 3)
	lays("another one more", 71, "1 2:a 2:b 3:c 3/71", 6, 1, 2, 6)
	lays("one less", 5, "1 2:a 2:b 3:c 3/5", 6, 2)
	lays("not itself", 6, "1 2:a 2:b 3:c 3/6", 6, 1, 2)
	lays("the same", 7, "1 2:a 2:b 3:c 3/7", 6, 1, 2)
	c.Log = log("1 2:a 2/3 3:c")
	lays("itself alone", 1, "1 2:a 2/3 3:c 3/1", 7)
	lays("not itself, of two", 2, "1 2:a 2/3 3:c 3/2", 6, 1)
	lays("a third one", 67, "1 2:a 2/3 3:c 3/67", 6, 1, 6)
}

func TestMembersThatAreNotLaid(t *testing.T) {
	const top = api.MaxIndex
	c := leader()
	c.Commit = 6
	other := func(mask int) api.Input { return api.Input{Kind: api.InMask, Mask: mask} }
	for _, mask := range []int{0, -1, 128, 135, math.MinInt, math.MinInt | 7, math.MaxInt, 1, 31, 4, 12, 14, 13, 127} {
		errs(t, "members that may not be", c, other(mask), api.ErrArg)
		d := follower()
		errs(t, "members that may not be, for one that does not lead", d, other(mask), api.ErrArg)
	}
	errs(t, "members for one that does not lead", follower(), other(3), api.ErrLead)
	standing := follower()
	standing.Role = api.Stands
	errs(t, "members for one that stands", standing, other(3), api.ErrLead)
	for commit := 2; commit <= 5; commit++ {
		d := c
		d.Commit = commit
		errs(t, "members ahead of a term", d, other(3), api.ErrBusy)
		d.Role = api.Follows
		errs(t, "members ahead of a term, for one that does not lead", d, other(3), api.ErrLead)
	}
	c.Log = log("1 3:a 3/3 3:c")
	for commit := 4; commit <= 6; commit++ {
		c.Commit = commit
		if commit < 5 {
			errs(t, "members behind others", c, other(7), api.ErrBusy)
			continue
		}
		happens(t, "members behind others that are agreed on", c, other(7), func(c *api.Core) { c.Log = log("1 3:a 3/3 3:c 3/7") }, logs(1, 6, 3, commit, "3/7"), logs(2, 6, 3, commit, "3/7"))
	}
	c.Commit = 4
	errs(t, "members unlike those that are not agreed on", c, other(15), api.ErrArg)
	c = leader()
	c.Base.Index, c.Commit = top-4, top
	errs(t, "members behind the last index", c, other(3), api.ErrLong)
	c.Commit = top - 1
	errs(t, "members behind the last index, and ahead of a term", c, other(3), api.ErrBusy)
	c = leader()
	c.Base.Mask, c.Commit = 0, 6
	errs(t, "members where there are none", c, other(1), api.ErrArg)
	c.Base.Mask, c.Log, c.Base.Term, c.Commit = 7, nil, 3, 2
	c.Next = all(3)
	happens(t, "the term of the base", c, other(3), func(c *api.Core) { c.Log = log("3/3") }, logs(1, 2, 3, 2, "3/3"))
}

func TestACut(t *testing.T) {
	for _, c := range []api.Core{follower(), leader()} {
		c.Log, c.Commit = log("1 2/3 2:b 3/7 3:d"), 6
		cut := func(index int, text string) api.Input {
			return api.Input{Kind: api.InCut, Index: index, Text: text}
		}
		for index, want := range map[int]api.Core{
			3: {Base: api.Snap{Index: 3, Term: 1, Mask: 7}, Log: log("2/3 2:b 3/7 3:d")},
			4: {Base: api.Snap{Index: 4, Term: 2, Mask: 3}, Log: log("2:b 3/7 3:d")},
			5: {Base: api.Snap{Index: 5, Term: 2, Mask: 3}, Log: log("3/7 3:d")},
			6: {Base: api.Snap{Index: 6, Term: 3, Mask: 7}, Log: log("3:d")},
		} {
			for _, text := range []string{"", "text", strings.Repeat("t", 1<<18)} {
				happens(t, "a cut", c, cut(index, text), func(c *api.Core) {
					c.Base, c.Log = want.Base, want.Log
					c.Base.Text = text
				})
			}
			errs(t, "a cut with a long text", c, cut(index, strings.Repeat("t", 1<<18+1)), api.ErrLong)
		}
		for _, index := range []int{-1, 0, 1, 2, 7, 8, math.MinInt, math.MaxInt} {
			errs(t, "a cut elsewhere", c, cut(index, "text"), api.ErrArg)
			errs(t, "a cut elsewhere with a long text", c, cut(index, strings.Repeat("t", 1<<18+1)), api.ErrArg)
		}
		c.Commit = 7
		happens(t, "a cut of all", c, cut(7, "text"), func(c *api.Core) {
			c.Base, c.Log = api.Snap{Index: 7, Term: 3, Mask: 7, Text: "text"}, nil
		})
	}
}
