package raft_test

import (
	"math"
	"strings"
	"testing"

	"auspice/api"
)

// 16.2: ticks

func TestATickOfOneThatWaits(t *testing.T) {
	for _, role := range []int{api.Follows, api.Stands} {
		c := follower()
		c.Role, c.Clock = role, 13
		happens(t, "a tick ahead of the limit", c, api.Input{Draw: 3}, func(c *api.Core) { c.Clock = 14 })
		c.Clock = 0
		happens(t, "the first tick", c, api.Input{Draw: 3}, func(c *api.Core) { c.Clock = 1 })
	}
}

func TestATickOfOneThatStands(t *testing.T) {
	for _, role := range []int{api.Follows, api.Stands} {
		for _, clock := range []int{14, 15, 300, api.MaxIndex} {
			for draw, limit := range map[int]int{0: 10, 3: 13, 10: 20, 11: 10, -1: 20, -11: 10, math.MinInt: 10 + (math.MinInt%11+11)%11} {
				c := follower()
				c.Role, c.Clock, c.Vote, c.Lead = role, clock, 1, 2
				happens(t, "a tick at the limit", c, api.Input{Draw: draw}, func(c *api.Core) {
					c.Clock, c.Heard, c.Limit = 0, 0, limit
					c.Term, c.Vote, c.Votes, c.Role, c.Lead = 4, 0, 1, api.Stands, -1
				}, ask(1, 6, 3), ask(2, 6, 3))
			}
		}
	}
	c := follower()
	c.Me, c.Clock, c.Log, c.Commit, c.Next = 4, 14, log("1/124"), 2, all(1)
	happens(t, "another node", c, api.Input{}, func(c *api.Core) {
		c.Clock, c.Heard, c.Limit = 0, 0, 10
		c.Term, c.Vote, c.Votes, c.Role = 4, 4, 16, api.Stands
	}, ask(2, 3, 1), ask(3, 3, 1), ask(5, 3, 1), ask(6, 3, 1))
	c.Log = nil
	c.Base.Mask = 17
	happens(t, "without a log", c, api.Input{}, func(c *api.Core) {
		c.Clock, c.Heard, c.Limit = 0, 0, 10
		c.Term, c.Vote, c.Votes, c.Role = 4, 4, 16, api.Stands
	}, ask(0, 2, 1))
}

func TestWhoMayStand(t *testing.T) {
	stands := func(c *api.Core) {
		c.Clock, c.Heard, c.Limit = 0, 0, 12
		c.Term, c.Vote, c.Votes, c.Role, c.Lead = c.Term+1, 0, 1, api.Stands, -1
	}
	waits := func(c *api.Core) { c.Clock, c.Heard, c.Limit = 0, 0, 12 }
	c := follower()
	c.Clock, c.Lead, c.Log, c.Commit = 14, 2, log("1 2:a 2/6 3:c"), 5
	happens(t, "no member", c, api.Input{Draw: 2}, waits)
	c.Commit = 4
	happens(t, "no member as yet", c, api.Input{Draw: 2}, stands, ask(1, 6, 3), ask(2, 6, 3))
	c = follower()
	c.Clock, c.Base.Mask = 14, 6
	happens(t, "no member by the snapshot", c, api.Input{Draw: 2}, waits)
	c.Base.Mask = 0
	happens(t, "no members at all", c, api.Input{Draw: 2}, waits)
	c = follower()
	c.Clock, c.Term = 14, api.MaxIndex-1
	happens(t, "the last term but one", c, api.Input{Draw: 2}, stands, ask(1, 6, 3), ask(2, 6, 3))
	c.Term = api.MaxIndex
	happens(t, "the last term", c, api.Input{Draw: 2}, waits)
	c.Role = api.Stands
	happens(t, "the last term, standing", c, api.Input{Draw: 2}, waits)
}

// Example 1.
func TestANodeAlone(t *testing.T) {
	c := api.Core{Vote: -1, Lead: -1, Base: api.Snap{Mask: 1}, Clock: 12, Limit: 13, Next: all(1), Match: numbers{}}
	c = happens(t, "the tick of its limit", c, api.Input{Draw: 5}, func(c *api.Core) {
		c.Clock, c.Limit, c.Term, c.Vote, c.Votes = 0, 15, 1, 0, 1
		c.Role, c.Lead, c.Log, c.Commit = api.Leads, 0, log("1"), 1
	})
	c = happens(t, "a text", c, api.Input{Kind: api.InText, Text: "a"}, func(c *api.Core) { c.Log, c.Commit = log("1 1:a"), 2 })
	for range 30 {
		clock := (c.Clock + 1) % 10
		c = happens(t, "a tick", c, api.Input{}, func(c *api.Core) { c.Clock = clock })
	}
}

func TestToLeadAtOnce(t *testing.T) {
	c := follower()
	c.Clock, c.Log, c.Commit, c.Next, c.Match = 14, log("1 2:a 2/1 3:c"), 3, numbers{1, 2, 3, 4, 5, 6, 7}, numbers{6, 5, 4, 3, 2, 1}
	happens(t, "alone, with what is not agreed on", c, api.Input{Draw: 1}, func(c *api.Core) {
		c.Clock, c.Heard, c.Limit, c.Term, c.Vote, c.Votes, c.Role, c.Lead = 0, 0, 11, 4, 0, 1, api.Leads, 0
		c.Next, c.Match, c.Log, c.Commit = all(7), all(0), log("1 2:a 2/1 3:c 4"), 7
	})
	const top = api.MaxIndex
	c.Base.Index, c.Commit, c.Next, c.Match = top-4, top-3, all(1), all(0)
	happens(t, "without an index for a Noop", c, api.Input{Draw: 1}, func(c *api.Core) {
		c.Clock, c.Heard, c.Limit, c.Term, c.Vote, c.Votes, c.Role, c.Lead = 0, 0, 11, 4, 0, 1, api.Leads, 0
		c.Next, c.Match = all(top+1), all(0)
	})
}

// 16.2: what a node that leads sends, and that it leads no more, if too few answer.

func TestATickOfOneThatLeads(t *testing.T) {
	c := leader()
	c.Next, c.Heard = numbers{1, 7, 4, 1, 1, 1, 1}, 6
	to1, to2 := logs(1, 6, 3, 4, ""), logs(2, 3, 1, 4, "2:a 2:b 3:c")
	c.Clock = 8
	happens(t, "the ninth tick", c, api.Input{Draw: 3}, func(c *api.Core) { c.Clock = 9 }, to1, to2)
	for _, clock := range []int{9, 10, 300, api.MaxIndex} {
		c.Clock = clock
		for heard, stays := range map[int]bool{0: false, 1: false, 2: true, 4: true, 6: true, 127: true, 120: false, 121: false} {
			c.Heard = heard
			if stays {
				happens(t, "the tenth tick, and heard", c, api.Input{Draw: 3}, func(c *api.Core) { c.Clock, c.Heard = 0, 0 }, to1, to2)
			} else {
				happens(t, "the tenth tick, and not heard", c, api.Input{Draw: 3}, func(c *api.Core) {
					c.Clock, c.Heard, c.Role, c.Lead = 0, 0, api.Follows, -1
				})
			}
		}
	}
	c.Log, c.Clock, c.Heard, c.Next = log("1 2:a 2/6 3:c"), 9, 2, all(7)
	happens(t, "no member, and one of two is heard", c, api.Input{}, func(c *api.Core) {
		c.Clock, c.Heard, c.Role, c.Lead = 0, 0, api.Follows, -1
	})
	c.Heard = 6
	happens(t, "no member, and all are heard", c, api.Input{}, func(c *api.Core) {
		c.Clock, c.Heard = 0, 0
	}, logs(1, 6, 3, 4, ""), logs(2, 6, 3, 4, ""))
	c = leader()
	c.Base.Mask, c.Clock = 0, 9
	happens(t, "no members", c, api.Input{}, func(c *api.Core) { c.Clock, c.Heard, c.Role, c.Lead = 0, 0, api.Follows, -1 })
}

func TestWhatIsSent(t *testing.T) {
	tick := func(c *api.Core) { c.Clock++ }
	c := leader()
	c.Base.Mask = 3
	for next, want := range map[int]api.Msg{
		1: snap(1, c.Base), 2: snap(1, c.Base),
		3: logs(1, 2, 1, 4, "1 2:a 2:b 3:c"), 4: logs(1, 3, 1, 4, "2:a 2:b 3:c"), 5: logs(1, 4, 2, 4, "2:b 3:c"),
		6: logs(1, 5, 2, 4, "3:c"), 7: logs(1, 6, 3, 4, ""),
	} {
		c.Next[1] = next
		happens(t, "a tick", c, api.Input{}, tick, want)
	}
	c.Base, c.Next, c.Match = api.Snap{Mask: 3}, all(1), all(0)
	happens(t, "from the front on", c, api.Input{}, tick, logs(1, 0, 0, 4, "1 2:a 2:b 3:c"))
	for _, n := range []int{15, 16, 17, 18, 40} {
		c.Log, c.Next = log(strings.Repeat("1:a ", n)), all(1)
		happens(t, "many entries", c, api.Input{}, tick, logs(1, 0, 0, 4, strings.Repeat("1:a ", min(n, 16))))
		c.Next = all(2)
		happens(t, "many entries, from the second on", c, api.Input{}, tick, logs(1, 1, 1, 4, strings.Repeat("1:a ", min(n-1, 16))))
	}
}

// texts are entries of the term 1 with so long texts, 0 of a Noop.
func texts(sizes ...int) (l []api.Entry) {
	for _, n := range sizes {
		e := api.Entry{Term: 1, Kind: api.EntryNoop}
		if n > 0 {
			e.Kind, e.Text = api.EntryText, strings.Repeat("t", n)
		}
		l = append(l, e)
	}
	return l
}

func TestHowMuchIsSent(t *testing.T) {
	const bulk = 1 << 15
	for _, x := range []struct {
		sizes []int
		sent  int
	}{
		{[]int{bulk, 1}, 1}, {[]int{bulk, 0, 0, 1}, 3}, {[]int{bulk, bulk}, 1}, {[]int{bulk - 1, 1, 1}, 2}, {[]int{bulk - 1, 2, 1}, 1},
		{[]int{1, bulk}, 1}, {[]int{1, bulk - 1}, 2}, {[]int{0, bulk, 0}, 3}, {[]int{0, 0, 1, bulk, 0}, 3}, {[]int{10000, 10000, 10000, 2768, 1}, 4},
		{[]int{10000, 10000, 10000, 2769, 0}, 3}, {[]int{2048, 2048, 2048, 2048, 2048, 2048, 2048, 2048, 2048, 2048, 2048, 2048, 2048, 2048, 2048, 2048, 0}, 16},
		{[]int{2048, 2048, 2048, 2048, 2048, 2048, 2048, 2048, 2048, 2048, 2048, 2048, 2048, 2048, 2048, 2049, 0}, 15},
	} {
		c := leader()
		c.Base, c.Log, c.Commit, c.Next, c.Match = api.Snap{Mask: 3}, texts(x.sizes...), 0, all(1), all(0)
		want := logs(1, 0, 0, 0, "")
		want.Entries = c.Log[:x.sent]
		happens(t, "much", c, api.Input{}, func(c *api.Core) { c.Clock++ }, want)
	}
}
