package raft_test

import (
	"fmt"
	"strings"
	"testing"

	"auspice/api"
)

// 16.2: messages

// at is a message of a term, from the node 2.
func at(term int, m api.Msg) api.Input {
	m.From, m.Term = 2, term
	return comes(m)
}

// kinds are a message of each kind, as they might come to the node 0.
func kinds() map[int]api.Msg {
	return map[int]api.Msg{
		api.MsgAsk: ask(0, 6, 3), api.MsgVote: vote(0, true), api.MsgGot: got(0, true, 6),
		api.MsgLog: logs(0, 6, 3, 6, "3"), api.MsgSnap: snap(0, api.Snap{Index: 9, Term: 2}),
	}
}

func TestALesserTerm(t *testing.T) {
	standing := follower()
	standing.Role, standing.Lead = api.Stands, -1
	for kind, m := range kinds() {
		for _, c := range []api.Core{follower(), standing, leader()} {
			var want []api.Msg
			switch {
			case kind == api.MsgAsk && c.Role != api.Leads:
				want = []api.Msg{vote(2, false)}
			case kind == api.MsgLog, kind == api.MsgSnap:
				want = []api.Msg{got(2, false, 0)}
			}
			for _, term := range []int{1, 2} {
				happens(t, fmt.Sprint("a lesser term, kind ", kind), c, at(term, m), nothing, want...)
			}
		}
	}
}

func TestAGreaterTerm(t *testing.T) {
	for _, c := range []api.Core{follower(), leader()} {
		c.Vote, c.Clock = 0, 9
		for _, term := range []int{4, 300, api.MaxIndex} {
			newer := func(c *api.Core) { c.Term, c.Vote, c.Lead, c.Role = term, -1, -1, api.Follows }
			happens(t, "a vote of a greater term", c, at(term, vote(0, true)), newer)
			happens(t, "an answer of a greater term", c, at(term, got(0, true, 6)), newer)
			happens(t, "a log of a greater term", c, at(term, logs(0, 6, 3, 0, "")), func(c *api.Core) {
				newer(c)
				c.Lead, c.Clock = 2, 0
			}, got(2, true, 6))
			happens(t, "a snapshot of a greater term", c, at(term, snap(0, api.Snap{Index: 1})), func(c *api.Core) {
				newer(c)
				c.Lead, c.Clock = 2, 0
			}, got(2, true, 4))
			if c.Role == api.Leads {
				continue
			}
			happens(t, "asked in a greater term", c, at(term, ask(0, 6, 3)), func(c *api.Core) {
				newer(c)
				c.Vote, c.Clock = 2, 0
			}, vote(2, true))
			happens(t, "asked in a greater term, by one with less", c, at(term, ask(0, 5, 3)), newer, vote(2, false))
		}
	}
	c := follower()
	c.Role, c.Vote = api.Stands, 0
	happens(t, "a vote of a greater term for one that stands", c, at(4, vote(0, true)), func(c *api.Core) {
		c.Term, c.Vote, c.Role = 4, -1, api.Follows
	})
}

func TestAnAskThatIsNotHeard(t *testing.T) {
	for term := 1; term < 6; term++ {
		happens(t, "asked while it leads", leader(), at(term, ask(0, 9, 3)), nothing)
		c := follower()
		for lead := range 7 {
			for clock := range 10 {
				c.Lead, c.Clock = lead, clock
				happens(t, "asked while it is led", c, at(term, ask(0, 9, 3)), nothing)
			}
		}
		c.Lead, c.Clock, c.Term, c.Vote = 1, 10, term, -1
		c.Log, c.Next = log("1 1"), all(1)
		happens(t, "asked when it was led long ago", c, at(term, ask(0, 9, 3)), func(c *api.Core) { c.Vote, c.Clock = 2, 0 }, vote(2, true))
		c.Lead, c.Clock = -1, 0
		happens(t, "asked without one that leads", c, at(term, ask(0, 9, 3)), func(c *api.Core) { c.Vote = 2 }, vote(2, true))
	}
}

func TestAnAsk(t *testing.T) {
	for _, x := range []struct {
		vote, index, term int
		yes               bool
	}{
		{-1, 6, 3, true}, {2, 6, 3, true}, {0, 6, 3, false}, {1, 6, 3, false}, {6, 6, 3, false},
		{-1, 7, 3, true}, {-1, 5, 3, false}, {-1, 100, 2, false}, {-1, 0, 4, true}, {2, 0, 4, true}, {2, 5, 3, false}, {0, 0, 4, false},
	} {
		c := follower()
		c.Vote = x.vote
		happens(t, fmt.Sprint("asked ", x), c, at(3, ask(0, x.index, x.term)), func(c *api.Core) {
			if x.yes {
				c.Vote, c.Clock = 2, 0
			}
		}, vote(2, x.yes))
		c.Log, c.Commit, c.Next, c.Base.Index, c.Base.Term = nil, 6, all(1), 6, 3
		happens(t, fmt.Sprint("asked without a log ", x), c, at(3, ask(0, x.index, x.term)), func(c *api.Core) {
			if x.yes {
				c.Vote, c.Clock = 2, 0
			}
		}, vote(2, x.yes))
	}
	c := follower()
	c.Role, c.Vote = api.Stands, 0
	happens(t, "asked while it stands", c, at(3, ask(0, 9, 3)), nothing, vote(2, false))
	c.Vote, c.Role, c.Base.Mask = -1, api.Follows, 4
	happens(t, "asked as no member", c, at(3, ask(0, 9, 3)), func(c *api.Core) { c.Vote, c.Clock = 2, 0 }, vote(2, true))
	m := ask(0, 9, 3)
	m.From, m.Term = 5, 3
	happens(t, "asked by no member", c, api.Input{Kind: api.InMsg, Msg: m}, func(c *api.Core) { c.Vote, c.Clock = 5, 0 }, vote(5, true))
}

func TestAVote(t *testing.T) {
	c := follower()
	c.Role, c.Vote, c.Votes, c.Base.Mask, c.Lead = api.Stands, 0, 1, 31, -1
	happens(t, "a no", c, at(3, vote(0, false)), nothing)
	happens(t, "the second of five", c, at(3, vote(0, true)), func(c *api.Core) { c.Votes = 5 })
	c.Votes = 97
	happens(t, "the second of five, and two others", c, at(3, vote(0, true)), func(c *api.Core) { c.Votes = 101 })
	c.Votes = 5
	happens(t, "the second of five once more", c, at(3, vote(0, true)), nothing)
	c.Votes = 31
	happens(t, "a no, where all said yes", c, at(3, vote(0, false)), nothing)
	c.Votes = 9
	leads := func(c *api.Core) {
		c.Votes, c.Role, c.Lead, c.Clock, c.Heard = 13, api.Leads, 0, 0, 0
		c.Next, c.Match, c.Log = all(7), all(0), log("1 2:a 2:b 3:c 3")
	}
	noop := func(to int) api.Msg { return logs(to, 6, 3, 4, "3") }
	happens(t, "the third of five", c, at(3, vote(0, true)), leads, noop(1), noop(2), noop(3), noop(4))
	c.Role = api.Follows
	happens(t, "a vote for one that follows", c, at(3, vote(0, true)), nothing)
	c.Role = api.Leads
	happens(t, "a vote for one that leads", c, at(3, vote(0, true)), nothing)

	c = follower()
	c.Role, c.Vote, c.Votes, c.Log = api.Stands, 0, 1, log("1 2:a 2/6 3:c")
	happens(t, "the first of two for one that is no member", c, at(3, vote(0, true)), func(c *api.Core) { c.Votes = 5 })
	c.Votes = 3
	happens(t, "the second of two for one that is no member", c, at(3, vote(0, true)), func(c *api.Core) {
		c.Votes, c.Role, c.Lead, c.Clock, c.Heard = 7, api.Leads, 0, 0, 0
		c.Next, c.Match, c.Log = all(7), all(0), log("1 2:a 2/6 3:c 3")
	}, noop(1), noop(2))

	const top = api.MaxIndex
	c = follower()
	c.Role, c.Votes, c.Base.Index, c.Commit = api.Stands, 1, top-4, top-2
	happens(t, "without an index for a Noop", c, at(3, vote(0, true)), func(c *api.Core) {
		c.Votes, c.Role, c.Lead, c.Clock, c.Heard = 5, api.Leads, 0, 0, 0
		c.Next, c.Match = all(top+1), all(0)
	}, logs(1, top, 3, top-2, ""), logs(2, top, 3, top-2, ""))
}

// led is a change: the node follows 2, and heard of it.
func led(c *api.Core) {
	c.Role, c.Lead, c.Clock = api.Follows, 2, 0
}

func TestALog(t *testing.T) {
	standing := follower()
	standing.Role, standing.Lead = api.Stands, -1
	other := follower()
	other.Lead = 1
	for _, c := range []api.Core{follower(), standing, other, leader()} {
		for _, x := range []struct {
			what  string
			m     api.Msg
			log   string
			agree int
			yes   bool
			index int
		}{
			{"nothing new", logs(0, 6, 3, 4, ""), "", 4, true, 6},
			{"nothing new, agreed on", logs(0, 6, 3, 5, ""), "", 5, true, 6},
			{"nothing new, agreed on beyond it", logs(0, 6, 3, 99, ""), "", 6, true, 6},
			{"nothing new, agreed on ahead", logs(0, 6, 3, 1, ""), "", 4, true, 6},
			{"nothing, in the middle", logs(0, 5, 2, 99, ""), "", 5, true, 5},
			{"nothing, at what is agreed on", logs(0, 4, 2, 99, ""), "", 4, true, 4},
			{"nothing, ahead of what is agreed on", logs(0, 3, 1, 99, ""), "", 4, true, 3},
			{"nothing, at the base", logs(0, 2, 1, 99, ""), "", 4, true, 2},
			{"one more", logs(0, 6, 3, 4, "3:d"), "1 2:a 2:b 3:c 3:d", 4, true, 7},
			{"one more, agreed on", logs(0, 6, 3, 7, "3/3"), "1 2:a 2:b 3:c 3/3", 7, true, 7},
			{"two more, one agreed on", logs(0, 6, 3, 7, "3 3:d"), "1 2:a 2:b 3:c 3 3:d", 7, true, 8},
			{"what is there", logs(0, 2, 1, 6, "1 2:a 2:b 3:c"), "", 6, true, 6},
			{"a beginning of what is there", logs(0, 2, 1, 6, "1 2:a"), "", 4, true, 4},
			{"a piece of what is there", logs(0, 3, 1, 6, "2:a 2:b"), "", 5, true, 5},
			{"what is there and one more", logs(0, 4, 2, 0, "2:b 3:c 3:d"), "1 2:a 2:b 3:c 3:d", 4, true, 7},
			{"another one", logs(0, 5, 2, 9, "3:d"), "1 2:a 2:b 3:d", 6, true, 6},
			{"another one of another term", logs(0, 4, 2, 5, "3:b"), "1 2:a 3:b", 5, true, 5},
			{"another one of another kind", logs(0, 5, 2, 5, "3"), "1 2:a 2:b 3", 5, true, 6},
			{"another one, and more", logs(0, 3, 1, 5, "2:a 2:B 2:c 3:d 3:e"), "1 2:a 2:B 2:c 3:d 3:e", 5, true, 8},
			{"an index below the base", logs(0, 1, 1, 9, "1:x 1 2:a 2:b 3:c 3:d"), "", 4, true, 4},
			{"the index 0", logs(0, 0, 0, 9, ""), "", 4, true, 4},
			{"another term at the base", logs(0, 2, 2, 9, "3:d"), "", 4, false, 4},
			{"another term ahead of what is agreed on", logs(0, 3, 2, 9, ""), "", 4, false, 4},
			{"another term at the last one", logs(0, 6, 2, 9, "3:d"), "", 4, false, 5},
			{"another term at 5", logs(0, 5, 3, 9, "3:d"), "", 4, false, 4},
			{"the index behind the last one", logs(0, 7, 3, 9, "3:d"), "", 4, false, 6},
			{"an index behind that", logs(0, 8, 3, 9, ""), "", 4, false, 6},
			{"the last index there is", logs(0, api.MaxIndex, 3, 9, "3"), "", 4, false, 6},
			{"a term that falls", logs(0, 6, 3, 9, "2:d"), "", 4, true, -1},
			{"a term that falls later", logs(0, 5, 2, 9, "3:d 2:e"), "", 4, true, -1},
			{"a term above", logs(0, 6, 3, 9, "4:d"), "", 4, true, -1},
			{"a term above later", logs(0, 4, 2, 9, "3:d 3 4"), "", 4, true, -1},
			{"a term that falls from what stays", logs(0, 4, 2, 9, "1:d"), "", 4, true, -1},
			{"another one that is agreed on", logs(0, 3, 1, 9, "2:A 2:b"), "", 4, true, -1},
			{"another one at the front", logs(0, 2, 1, 9, "1:x 2:a 2:b 3:c 3:d"), "", 4, true, -1},
		} {
			var want []api.Msg
			if x.index >= 0 {
				want = append(want, got(2, x.yes, x.index))
			}
			happens(t, x.what, c, at(3, x.m), func(c *api.Core) {
				led(c)
				c.Commit = x.agree
				if x.log != "" {
					c.Log = log(x.log)
				}
				// Of a shorter log less is known of others: each Next was 7, each Match 1.
				c.Next = all(min(7, 3+len(c.Log)))
			}, want...)
		}
	}
}

func TestALogAgreedOnToItsEnd(t *testing.T) {
	c := follower()
	c.Commit = 6
	happens(t, "another term", c, at(3, logs(0, 6, 2, 9, "")), led, got(2, false, 6))
	happens(t, "another one", c, at(3, logs(0, 5, 2, 9, "3:d")), led)
	c.Commit, c.Log, c.Next = 2, nil, all(3)
	happens(t, "terms below the base's", c, at(3, logs(0, 2, 1, 9, "0")), led)
	happens(t, "the first ones", c, at(3, logs(0, 2, 1, 3, "1:a 3/1")), func(c *api.Core) {
		led(c)
		c.Log, c.Commit = log("1:a 3/1"), 3
	}, got(2, true, 4))
	happens(t, "another term at the base, without a log", c, at(3, logs(0, 2, 3, 9, "")), led, got(2, false, 2))
}

func TestALogAtTheLastIndex(t *testing.T) {
	const top = api.MaxIndex
	c := follower()
	c.Base.Index, c.Commit = top-5, top-4
	happens(t, "up to the last index", c, at(3, logs(0, top-1, 3, 0, "3")), func(c *api.Core) {
		led(c)
		c.Log = log("1 2:a 2:b 3:c 3")
	}, got(2, true, top))
	happens(t, "beyond the last index", c, at(3, logs(0, top-1, 3, 0, "3 3")), led)
	happens(t, "beyond the last index, from the middle on", c, at(3, logs(0, top-3, 2, 0, strings.Repeat("3 ", 4))), led)
	c.Base.Index, c.Commit = top-4, top-4
	happens(t, "behind the last index", c, at(3, logs(0, top, 3, 0, "3")), led)
	happens(t, "at the last index", c, at(3, logs(0, top, 3, top, "")), func(c *api.Core) {
		led(c)
		c.Commit = top
	}, got(2, true, top))
	c.Base.Index, c.Base.Term, c.Log, c.Commit = 0, 0, nil, 0
	c.Next, c.Match = all(1), all(0)
	happens(t, "the first entry", c, at(3, logs(0, 0, 0, 0, "1")), func(c *api.Core) {
		led(c)
		c.Log = log("1")
	}, got(2, true, 1))
	happens(t, "another term at the index 0", c, at(3, logs(0, 0, 1, 0, "1")), led, got(2, false, 0))
}

func TestWhatIsKnownOfOthersWhereALogIsLaid(t *testing.T) {
	c := follower()
	c.Next, c.Match = numbers{1, 2, 3, 4, 5, 6, 7}, numbers{0, 1, 2, 3, 4, 5, 6}
	happens(t, "a shorter log", c, at(3, logs(0, 4, 2, 0, "3")), func(c *api.Core) {
		led(c)
		c.Log, c.Next, c.Match = log("1 2:a 3"), numbers{1, 2, 3, 4, 5, 6, 6}, numbers{0, 1, 2, 3, 4, 5, 5}
	}, got(2, true, 5))
	happens(t, "a longer log", c, at(3, logs(0, 6, 3, 0, "3")), func(c *api.Core) {
		led(c)
		c.Log = log("1 2:a 2:b 3:c 3")
	}, got(2, true, 7))
}

func TestASnapshot(t *testing.T) {
	for _, c := range []api.Core{follower(), leader()} {
		for _, x := range []struct {
			what  string
			s     api.Snap
			taken bool
			log   string
		}{
			{"ahead of the base", api.Snap{Index: 1, Term: 1, Mask: 1, Text: "s"}, false, ""},
			{"at what is agreed on", api.Snap{Index: 4, Term: 2, Mask: 1, Text: "s"}, false, ""},
			{"in the log", api.Snap{Index: 5, Term: 2, Mask: 1, Text: "s"}, true, "3:c"},
			{"in the log, of another term", api.Snap{Index: 5, Term: 3, Mask: 1, Text: "s"}, true, ""},
			{"in the log, of a lesser term", api.Snap{Index: 5, Term: 1, Mask: 0, Text: ""}, true, ""},
			{"at its end", api.Snap{Index: 6, Term: 3, Mask: 127, Text: "s"}, true, ""},
			{"behind it", api.Snap{Index: 7, Term: 3, Mask: 1, Text: "s"}, true, ""},
			{"far behind it", api.Snap{Index: api.MaxIndex, Term: 0, Mask: 1, Text: "s"}, true, ""},
			{"of a greater term", api.Snap{Index: 7, Term: 4, Mask: 1, Text: "s"}, false, ""},
			{"in the log, of a greater term", api.Snap{Index: 5, Term: 4, Mask: 1, Text: "s"}, false, ""},
		} {
			agreed := 4
			if x.taken {
				agreed = x.s.Index
			}
			happens(t, x.what, c, at(3, snap(0, x.s)), func(c *api.Core) {
				led(c)
				if x.taken {
					c.Base, c.Log, c.Commit = x.s, log(x.log), x.s.Index
					c.Next = all(min(7, agreed+len(c.Log)+1))
				}
			}, got(2, true, agreed))
		}
	}
	c := follower()
	c.Next, c.Match = numbers{1, 2, 3, 4, 5, 6, 7}, numbers{0, 1, 2, 3, 4, 5, 6}
	s := api.Snap{Index: 5, Term: 1, Mask: 3}
	happens(t, "what is known of others", c, at(3, snap(0, s)), func(c *api.Core) {
		led(c)
		c.Base, c.Log, c.Commit = s, nil, 5
		c.Next, c.Match = numbers{1, 2, 3, 4, 5, 6, 6}, numbers{0, 1, 2, 3, 4, 5, 5}
	}, got(2, true, 5))
}

func TestAnAnswer(t *testing.T) {
	c := leader()
	c.Base.Mask, c.Next, c.Match = 31, numbers{1, 7, 4, 7, 7, 7, 7}, numbers{0, 2, 3, 1, 1, 1, 1}
	for _, role := range []int{api.Follows, api.Stands} {
		d := c
		d.Role = role
		happens(t, "an answer to one that does not lead", d, at(3, got(0, true, 6)), nothing)
		happens(t, "a no to one that does not lead", d, at(3, got(0, false, 3)), nothing)
	}
	heard := func(match, next int) func(c *api.Core) {
		return func(c *api.Core) { c.Heard, c.Match[2], c.Next[2] = 4, match, next }
	}
	happens(t, "up to what is known", c, at(3, got(0, true, 3)), heard(3, 4), logs(2, 3, 1, 4, "2:a 2:b 3:c"))
	happens(t, "below what is known", c, at(3, got(0, true, 0)), heard(3, 4), logs(2, 3, 1, 4, "2:a 2:b 3:c"))
	happens(t, "one more", c, at(3, got(0, true, 4)), heard(4, 5), logs(2, 4, 2, 4, "2:b 3:c"))
	happens(t, "all", c, at(3, got(0, true, 6)), heard(6, 7))
	happens(t, "more than all", c, at(3, got(0, true, 7)), heard(3, 4))
	happens(t, "far more than all", c, at(3, got(0, true, api.MaxIndex)), heard(3, 4))
	c.Heard = 66
	happens(t, "one more was heard", c, at(3, got(0, true, 7)), func(c *api.Core) { c.Heard = 70 })
	c.Heard = 0
	c.Next[2] = 6
	happens(t, "up to less than was sent", c, at(3, got(0, true, 4)), heard(4, 6), logs(2, 5, 2, 4, "3:c"))

	c.Next[2] = 7
	happens(t, "a no at the last one", c, at(3, got(0, false, 5)), heard(3, 6), logs(2, 5, 2, 4, "3:c"))
	happens(t, "a no at all", c, at(3, got(0, false, 6)), heard(3, 7), logs(2, 6, 3, 4, ""))
	happens(t, "a no beyond all", c, at(3, got(0, false, 99)), heard(3, 7), logs(2, 6, 3, 4, ""))
	happens(t, "a no down to what is known", c, at(3, got(0, false, 3)), heard(3, 4), logs(2, 3, 1, 4, "2:a 2:b 3:c"))
	happens(t, "a no below what is known", c, at(3, got(0, false, 1)), heard(3, 4), logs(2, 3, 1, 4, "2:a 2:b 3:c"))
	c.Next[2] = 5
	happens(t, "a no above what is sent", c, at(3, got(0, false, 6)), heard(3, 5), logs(2, 4, 2, 4, "2:b 3:c"))
	c.Match[2] = 0
	happens(t, "a no below the base", c, at(3, got(0, false, 1)), heard(0, 2), snap(2, c.Base))
	happens(t, "a no at 0", c, at(3, got(0, false, 0)), heard(0, 1), snap(2, c.Base))
	happens(t, "a no at the base", c, at(3, got(0, false, 2)), heard(0, 3), logs(2, 2, 1, 4, "1 2:a 2:b 3:c"))
	c.Match[2], c.Next[2] = 6, 4
	happens(t, "a no below all", c, at(3, got(0, false, 2)), heard(6, 7), logs(2, 6, 3, 4, ""))
	c.Base.Mask = 3
	happens(t, "an answer of no member", c, at(3, got(0, true, 5)), heard(6, 6), logs(2, 5, 2, 4, "3:c"))
	happens(t, "a no of no member", c, at(3, got(0, false, 2)), heard(6, 7), logs(2, 6, 3, 4, ""))
}

func TestToAgree(t *testing.T) {
	answer := func(c api.Core, index, commit int, sent ...api.Msg) api.Core {
		t.Helper()
		return happens(t, fmt.Sprint("an answer up to ", index), c, at(3, got(0, true, index)), func(c *api.Core) {
			c.Heard, c.Match[2], c.Next[2], c.Commit = 4, max(c.Match[2], index), max(c.Next[2], index+1), commit
		}, sent...)
	}
	c := leader()
	answer(c, 6, 6)
	answer(c, 5, 4) // of the term 2
	c.Base.Mask = 31
	answer(c, 6, 4)
	c.Match = numbers{0, 6, 1, 1, 1, 6, 6}
	answer(c, 6, 6)
	c.Match = numbers{6, 1, 1, 1, 1, 6, 6}
	answer(c, 6, 4)
	c.Log, c.Match, c.Next = log("1 3:a 3:b 3:c"), numbers{0, 4, 1, 3, 1, 0, 0}, numbers{1, 5, 3, 4, 7, 1, 1}
	answer(c, 5, 4, logs(2, 5, 3, 4, "3:c"))
	c.Match[1] = 6
	answer(c, 5, 5, logs(2, 5, 3, 5, "3:c"))
	c.Commit = 6
	answer(c, 5, 6, logs(2, 5, 3, 6, "3:c"))
	// What is reached is what the members reached, by the log's last mask.
	c = leader()
	c.Log = log("1 2:a 3/6 3:c")
	answer(c, 6, 4)
	c.Match[1] = 4
	answer(c, 6, 4)
}

func TestOneThatLeadsAndIsNoMemberAnyMore(t *testing.T) {
	c := leader()
	c.Log, c.Match[1], c.Next[2] = log("1 2:a 3/6 3:c"), 5, 4
	gone := func(match, commit int) func(c *api.Core) {
		return func(c *api.Core) {
			c.Heard, c.Match[2], c.Next[2], c.Commit = 4, match, match+1, commit
			c.Role, c.Lead = api.Follows, -1
		}
	}
	happens(t, "the members are agreed on", c, at(3, got(0, true, 5)), gone(5, 5), logs(2, 5, 3, 5, "3:c"))
	c.Match[1] = 6
	happens(t, "all is agreed on", c, at(3, got(0, true, 6)), gone(6, 6))
	happens(t, "the members are not agreed on", c, at(3, got(0, true, 4)), func(c *api.Core) {
		c.Heard, c.Match[2], c.Next[2] = 4, 4, 5
	}, logs(2, 4, 2, 4, "3/6 3:c"))
	c.Commit = 5
	happens(t, "a no", c, at(3, got(0, false, 4)), func(c *api.Core) { c.Heard, c.Next[2] = 4, 4 }, logs(2, 3, 1, 5, "2:a 3/6 3:c"))
	happens(t, "an answer beyond all", c, at(3, got(0, true, 7)), func(c *api.Core) { c.Heard = 4 })
}
