package raft

import (
	"auspice/api"
	"auspice/bits"
)

// Check tells whether a message may be.
func Check(m api.Msg) bool {
	if m.Kind < api.MsgAsk || m.Kind > api.MsgSnap || !isNode(m.From) || !isNode(m.To) || m.From == m.To {
		return false
	}
	if !number(m.Term) || !number(m.Index) || !number(m.LogTerm) || !number(m.Commit) {
		return false
	}
	return len(m.Entries) <= Many && entriesMay(m.Entries) && snapMay(m.Snap) && nothing(spare(m))
}

// Write is a message's text.
func Write(m api.Msg) (string, api.Errno) {
	if !Check(m) {
		return "", api.ErrArg
	}
	s := nums(m.Kind, m.From, m.To, m.Term, m.Index, m.LogTerm, m.Commit) + bits.Flag(m.Yes) + nums(len(m.Entries))
	for _, e := range m.Entries {
		s += nums(e.Term, e.Kind, e.Mask) + bits.Text(e.Text)
	}
	return s + nums(m.Snap.Index, m.Snap.Term, m.Snap.Mask) + bits.Text(m.Snap.Text), api.OK
}

// Read is the message that a text says.
func Read(s string) (api.Msg, api.Errno) {
	t := bits.At(s)
	m := takeMsg(t)
	if t.End() != api.OK || !Check(m) {
		return api.Msg{}, api.ErrForm
	}
	return m, api.OK
}

// entriesMay tells whether all of some entries may be.
func entriesMay(l []api.Entry) bool {
	for _, e := range l {
		if !entryMay(e) {
			return false
		}
	}
	return true
}

// spare is what a message's kind does not name of it.
func spare(m api.Msg) api.Msg {
	switch m.Kind {
	case api.MsgAsk:
		m.Index, m.LogTerm = 0, 0
	case api.MsgVote:
		m.Yes = false
	case api.MsgLog:
		m.Index, m.LogTerm, m.Entries, m.Commit = 0, 0, nil, 0
	case api.MsgGot:
		m.Yes, m.Index = false, 0
	case api.MsgSnap:
		m.Snap = api.Snap{}
	}
	return m
}

// nothing tells whether a message says nothing, whoever sends it.
func nothing(m api.Msg) bool {
	return m.Index == 0 && m.LogTerm == 0 && m.Commit == 0 && !m.Yes && len(m.Entries) == 0 && m.Snap == api.Snap{}
}

// nums is the bytes of numbers that are not below 0.
func nums(l ...int) string {
	s := ""
	for _, n := range l {
		s += bits.Num(uint64(n))
	}
	return s
}

// takeMsg takes a message off a tape. A number that is none of this program's turns into one below 0, which may not be.
func takeMsg(t *bits.Tape) api.Msg {
	m := api.Msg{Kind: int(t.Num()), From: int(t.Num()), To: int(t.Num()), Term: int(t.Num()), Index: int(t.Num()), LogTerm: int(t.Num()), Commit: int(t.Num()), Yes: t.Flag()}
	// Of more than there may be one more is taken, so that there are too many.
	for range min(t.Num(), Many+1) {
		m.Entries = append(m.Entries, takeEntry(t))
	}
	m.Snap = api.Snap{Index: int(t.Num()), Term: int(t.Num()), Mask: int(t.Num()), Text: t.Text(api.MaxSnap)}
	return m
}

// takeEntry takes an entry off a tape.
func takeEntry(t *bits.Tape) api.Entry {
	return api.Entry{Term: int(t.Num()), Kind: int(t.Num()), Mask: int(t.Num()), Text: t.Text(api.MaxCmd)}
}
