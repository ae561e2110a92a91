package raft_test

import (
	"fmt"
	"reflect"
	"strconv"
	"strings"
	"testing"

	"auspice/api"
	"auspice/raft"
)

// numbers are numbers of the nodes.
type numbers = [api.MaxNodes]int

// all are numbers of the nodes that are one number.
func all(n int) (l numbers) {
	for i := range l {
		l[i] = n
	}
	return l
}

// log are entries, written with blanks between: each is a term alone (a Noop), with a mask behind a /, or with a text behind a colon.
func log(s string) (l []api.Entry) {
	for _, w := range strings.Fields(s) {
		e := api.Entry{Kind: api.EntryNoop}
		if term, text, ok := strings.Cut(w, ":"); ok {
			w, e.Kind, e.Text = term, api.EntryText, text
		}
		if term, mask, ok := strings.Cut(w, "/"); ok {
			w, e.Kind = term, api.EntryMask
			e.Mask, _ = strconv.Atoi(mask)
		}
		e.Term, _ = strconv.Atoi(w)
		l = append(l, e)
	}
	return l
}

// follower is the node 0 of three in the term 3, behind the index 2 of the term 1, with the log 1 2:a 2:b 3:c of 3 to 6, of which 4 is agreed on.
func follower() api.Core {
	return api.Core{
		Me: 0, Term: 3, Vote: -1, Lead: -1, Base: api.Snap{Index: 2, Term: 1, Mask: 7, Text: "base"}, Log: log("1 2:a 2:b 3:c"),
		Commit: 4, Clock: 4, Limit: 15, Votes: 2, Heard: 4, Next: all(7), Match: all(1),
	}
}

// leader is the same node, that leads.
func leader() api.Core {
	c := follower()
	c.Vote, c.Role, c.Lead, c.Votes, c.Heard = 0, api.Leads, 0, 3, 0
	return c
}

// changed is a core with a change.
func changed(c api.Core, change func(c *api.Core)) api.Core {
	change(&c)
	return c
}

// plain is a core or a list of messages in which nil lists stand for empty ones.
func plain(c api.Core, l []api.Msg) (api.Core, []api.Msg) {
	if len(c.Log) == 0 {
		c.Log = nil
	}
	var messages []api.Msg
	for _, m := range l {
		if len(m.Entries) == 0 {
			m.Entries = nil
		}
		messages = append(messages, m)
	}
	return c, messages
}

// alike tells whether two cores, and two lists of messages, are the same.
func alike(c api.Core, l []api.Msg, d api.Core, k []api.Msg) bool {
	c, l = plain(c, l)
	d, k = plain(d, k)
	return reflect.DeepEqual(c, d) && reflect.DeepEqual(l, k)
}

// happens fails, if of a core and an input not the same core with a change comes, and just these messages (whose From and Term are the core's).
func happens(t *testing.T, what string, c api.Core, in api.Input, change func(c *api.Core), want ...api.Msg) api.Core {
	t.Helper()
	got, sent, e := raft.Step(c, in)
	if e != api.OK {
		t.Fatalf("%s: %v", what, e)
	}
	d := changed(c, change)
	for i := range want {
		want[i].From, want[i].Term = d.Me, d.Term
	}
	if !alike(got, sent, d, want) {
		t.Errorf("%s:\n got %s\nwant %s", what, told(got, sent), told(d, want))
	}
	return got
}

// told is a core and messages as a text.
func told(c api.Core, l []api.Msg) string {
	s := fmt.Sprintf("%.300v", fmt.Sprintf("%+v", c))
	for _, m := range l {
		s += "\n     " + fmt.Sprintf("%.300v", fmt.Sprintf("%+v", m))
	}
	return s
}

// errs fails, if of a core and an input not an error comes, and the core as it was.
func errs(t *testing.T, what string, c api.Core, in api.Input, want api.Errno) {
	t.Helper()
	got, sent, e := raft.Step(c, in)
	if e != want || !alike(got, sent, c, nil) {
		t.Errorf("%s: %v, want %v\n got %s\nwant %s", what, e, want, told(got, sent), told(c, nil))
	}
}

// nothing is no change.
func nothing(*api.Core) {}

// comes is a message that comes to the node 0 in the term 3, but for what it says otherwise.
func comes(m api.Msg) api.Input {
	if m.Term == 0 {
		m.Term = 3
	}
	if m.From == 0 {
		m.From = 1
	}
	return api.Input{Kind: api.InMsg, Msg: m}
}

func ask(to, index, term int) api.Msg {
	return api.Msg{Kind: api.MsgAsk, To: to, Index: index, LogTerm: term}
}

func vote(to int, yes bool) api.Msg {
	return api.Msg{Kind: api.MsgVote, To: to, Yes: yes}
}

func got(to int, yes bool, index int) api.Msg {
	return api.Msg{Kind: api.MsgGot, To: to, Yes: yes, Index: index}
}

func logs(to, index, term, commit int, entries string) api.Msg {
	return api.Msg{Kind: api.MsgLog, To: to, Index: index, LogTerm: term, Commit: commit, Entries: log(entries)}
}

func snap(to int, s api.Snap) api.Msg {
	return api.Msg{Kind: api.MsgSnap, To: to, Snap: s}
}
