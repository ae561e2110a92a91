package raft_test

import (
	"math"
	"math/rand"
	"reflect"
	"strings"
	"testing"
	"unsafe"

	"auspice/api"
	"auspice/bits"
	"auspice/raft"
)

// 16.1

// byHand is a message's text by the words of the chapter.
func byHand(m api.Msg) string {
	num := func(n int) string { return bits.Num(uint64(n)) }
	s := num(m.Kind) + num(m.From) + num(m.To) + num(m.Term) + num(m.Index) + num(m.LogTerm) + num(m.Commit)
	s += bits.Flag(m.Yes) + num(len(m.Entries))
	for _, e := range m.Entries {
		s += num(e.Term) + num(e.Kind) + num(e.Mask) + bits.Text(e.Text)
	}
	return s + num(m.Snap.Index) + num(m.Snap.Term) + num(m.Snap.Mask) + bits.Text(m.Snap.Text)
}

// messages are messages that may be, at the edges of what may be, too.
func messages() []api.Msg {
	const top = api.MaxIndex
	many := make([]api.Entry, 16)
	for i := range many {
		many[i] = api.Entry{Term: i, Text: strings.Repeat("t", 1<<15)}
	}
	return []api.Msg{
		{Kind: api.MsgAsk, From: 0, To: 1},
		{Kind: api.MsgAsk, From: 6, To: 0, Term: top, Index: top, LogTerm: top},
		{Kind: api.MsgVote, From: 1, To: 2, Term: 3},
		{Kind: api.MsgVote, From: 1, To: 6, Term: 300, Yes: true},
		{Kind: api.MsgLog, From: 2, To: 1},
		{Kind: api.MsgLog, From: 2, To: 1, Term: top, Index: top, LogTerm: top, Commit: top, Entries: log("0 0:ab 5/1 4/127 549755813888:")},
		{Kind: api.MsgLog, From: 2, To: 1, Term: 1, Entries: many},
		{Kind: api.MsgLog, From: 2, To: 1, Term: 1, Entries: []api.Entry{}},
		{Kind: api.MsgGot, From: 3, To: 4, Term: 1},
		{Kind: api.MsgGot, From: 3, To: 4, Term: 1, Yes: true, Index: top},
		{Kind: api.MsgSnap, From: 5, To: 6},
		{Kind: api.MsgSnap, From: 5, To: 6, Term: 9, Snap: api.Snap{Index: top, Term: top, Mask: 127, Text: strings.Repeat("s", 1<<18)}},
	}
}

// noMessages are messages that may not be.
func noMessages() []api.Msg {
	const top = api.MaxIndex
	base := map[int]api.Msg{}
	for _, m := range messages() {
		base[m.Kind] = m
	}
	var l []api.Msg
	add := func(kind int, change func(m *api.Msg)) {
		m := base[kind]
		m.Entries = append([]api.Entry{}, m.Entries...)
		change(&m)
		l = append(l, m)
	}
	for kind := 1; kind <= 5; kind++ {
		for _, n := range []int{-1, 0, 6, 7, math.MinInt, math.MaxInt} {
			if n != 0 && n != 6 {
				add(kind, func(m *api.Msg) { m.From = n })
				add(kind, func(m *api.Msg) { m.To = n })
			} else {
				add(kind, func(m *api.Msg) { m.From, m.To = n, n })
				add(kind, func(m *api.Msg) { m.Kind = n })
			}
		}
		for _, n := range []int{-1, top + 1, math.MinInt, math.MaxInt} {
			add(kind, func(m *api.Msg) { m.Term = n })
			add(kind, func(m *api.Msg) { m.Index = n })
			add(kind, func(m *api.Msg) { m.LogTerm = n })
			add(kind, func(m *api.Msg) { m.Commit = n })
			add(kind, func(m *api.Msg) { m.Kind = n })
		}
	}
	for kind, others := range map[int][]func(m *api.Msg){
		api.MsgAsk:  {commit, yes, withEntries, snapshot},
		api.MsgVote: {index, logTerm, commit, withEntries, snapshot},
		api.MsgLog:  {yes, snapshot},
		api.MsgGot:  {logTerm, commit, withEntries, snapshot},
		api.MsgSnap: {index, logTerm, commit, yes, withEntries},
	} {
		for _, change := range others {
			add(kind, change)
		}
	}
	for _, e := range noEntries() {
		add(api.MsgLog, func(m *api.Msg) { m.Entries = []api.Entry{e} })
		add(api.MsgLog, func(m *api.Msg) { m.Entries = append(log("1 1:a"), e) })
	}
	add(api.MsgLog, func(m *api.Msg) { m.Entries = log(strings.Repeat("1 ", 17)) })
	add(api.MsgLog, func(m *api.Msg) { m.Entries = log(strings.Repeat("1 ", 300)) })
	for _, s := range noSnaps() {
		add(api.MsgSnap, func(m *api.Msg) { m.Snap = s })
	}
	return l
}

func index(m *api.Msg)       { m.Index = 1 }
func logTerm(m *api.Msg)     { m.LogTerm = 1 }
func commit(m *api.Msg)      { m.Commit = 1 }
func yes(m *api.Msg)         { m.Yes = true }
func withEntries(m *api.Msg) { m.Entries = make([]api.Entry, 1) }
func snapshot(m *api.Msg)    { m.Snap.Text = "s" }

// noEntries are entries that may not be.
func noEntries() []api.Entry {
	const top = api.MaxIndex
	return []api.Entry{
		{Term: -1}, {Term: top + 1}, {Term: math.MinInt}, {Term: math.MaxInt},
		{Kind: -1}, {Kind: 3}, {Kind: math.MaxInt}, {Kind: math.MinInt},
		{Kind: api.EntryText, Mask: 1}, {Kind: api.EntryText, Mask: -1}, {Kind: api.EntryText, Text: strings.Repeat("t", 1<<15+1)},
		{Kind: api.EntryNoop, Mask: 1}, {Kind: api.EntryNoop, Text: "a"},
		{Kind: api.EntryMask}, {Kind: api.EntryMask, Mask: -1}, {Kind: api.EntryMask, Mask: 128}, {Kind: api.EntryMask, Mask: math.MinInt | 7},
		{Kind: api.EntryMask, Mask: 7, Text: "a"},
	}
}

// noSnaps are snapshots that may not be.
func noSnaps() []api.Snap {
	const top = api.MaxIndex
	return []api.Snap{
		{Index: -1}, {Index: top + 1}, {Index: math.MinInt}, {Index: math.MaxInt},
		{Term: -1}, {Term: top + 1}, {Term: math.MaxInt},
		{Mask: -1}, {Mask: 128}, {Mask: math.MinInt}, {Mask: math.MaxInt},
		{Text: strings.Repeat("s", 1<<18+1)},
	}
}

func TestMessagesThatMayBe(t *testing.T) {
	for _, m := range messages() {
		if !raft.Check(m) {
			t.Errorf("%.200v may not be", m)
		}
		s, e := raft.Write(m)
		if s != byHand(m) || e != api.OK {
			t.Errorf("Write of %.200v: %.200x, %v", m, s, e)
		}
		got, e := raft.Read(s)
		if e != api.OK || !alike(api.Core{}, []api.Msg{got}, api.Core{}, []api.Msg{m}) {
			t.Errorf("Read of %.200x: %.200v, %v", s, got, e)
		}
	}
}

func TestATextByItsBytes(t *testing.T) {
	m := api.Msg{Kind: api.MsgLog, From: 2, To: 1, Term: 300, Index: 4, LogTerm: 3, Commit: 5, Entries: log("6:ab 7/7")}
	want := "\x03\x02\x01\xf9\x01\x2c\x04\x03\x05\x00\x02\x06\x00\x00\x02ab\x07\x02\x07\x00\x00\x00\x00\x00"
	if s, e := raft.Write(m); s != want || e != api.OK {
		t.Errorf("Write: %x, %v", s, e)
	}
}

func TestMessagesThatMayNotBe(t *testing.T) {
	for _, m := range noMessages() {
		if raft.Check(m) {
			t.Errorf("%.200v may be", m)
		}
		if s, e := raft.Write(m); s != "" || e != api.ErrArg {
			t.Errorf("Write of %.200v: %.200x, %v", m, s, e)
		}
		// What is below 0 becomes a number that is none of this program's.
		if got, e := raft.Read(byHand(m)); e != api.ErrForm || !reflect.DeepEqual(got, api.Msg{}) {
			t.Errorf("Read of the text of %.200v: %.200v, %v", m, got, e)
		}
	}
}

func TestTextsOfNoMessage(t *testing.T) {
	l := []string{"", "\x00", strings.Repeat("\xff", 100), strings.Repeat("\x00", 13), strings.Repeat("\x01", 13)}
	for _, m := range messages() {
		s := byHand(m)
		l = append(l, s+"\x00", s+s, "\x01"+s)
		for n := range min(len(s), 40) {
			l = append(l, s[:n], s[:len(s)-1-n])
		}
	}
	// A number with more bytes than it needs, a flag that is none, and more entries than there are, or than there may be.
	l = append(l, "\x01\x00\x01\xf8\x07\x00\x00\x00\x00\x00\x00\x00\x00\x00", "\x02\x00\x01\x01\x00\x00\x00\x02\x00\x00\x00\x00\x00")
	l = append(l, "\x03\x00\x01\x01\x00\x00\x00\x00\x02\x01\x01\x00\x00\x00\x00\x00\x00")
	l = append(l, "\x03\x00\x01\x01\x00\x00\x00\x00\xff\xff\xff\xff\xff\xff\xff\xff\xff"+strings.Repeat("\x01\x01\x00\x00", 17)+"\x00\x00\x00\x00")
	for _, s := range l {
		if m, e := raft.Read(s); e != api.ErrForm || !reflect.DeepEqual(m, api.Msg{}) {
			t.Errorf("Read of %.200x: %.200v, %v", s, m, e)
		}
	}
}

// randomMessage is a message that may be.
func randomMessage(r *rand.Rand) api.Msg {
	number := func() int {
		return []int{0, 1, 2, 247, 248, 300, 70000, api.MaxIndex, r.Intn(api.MaxIndex + 1)}[r.Intn(9)]
	}
	m := api.Msg{Kind: 1 + r.Intn(5), From: r.Intn(7), Term: number()}
	m.To = (m.From + 1 + r.Intn(6)) % 7
	switch m.Kind {
	case api.MsgAsk:
		m.Index, m.LogTerm = number(), number()
	case api.MsgVote:
		m.Yes = r.Intn(2) == 0
	case api.MsgLog:
		m.Index, m.LogTerm, m.Commit = number(), number(), number()
		for range r.Intn(17) {
			e := api.Entry{Term: number(), Kind: r.Intn(3)}
			switch e.Kind {
			case api.EntryText:
				e.Text = strings.Repeat("x", r.Intn(300))
			case api.EntryMask:
				e.Mask = 1 + r.Intn(127)
			}
			m.Entries = append(m.Entries, e)
		}
	case api.MsgGot:
		m.Yes, m.Index = r.Intn(2) == 0, number()
	case api.MsgSnap:
		m.Snap = api.Snap{Index: number(), Term: number(), Mask: r.Intn(128), Text: strings.Repeat("y", r.Intn(300))}
	}
	return m
}

func TestWhatIsReadIsJustWhatIsWritten(t *testing.T) {
	r := rand.New(rand.NewSource(161))
	read := 0
	for range 20000 {
		m := randomMessage(r)
		s, e := raft.Write(m)
		if s != byHand(m) || e != api.OK {
			t.Fatalf("Write of %v: %x, %v", m, s, e)
		}
		if got, e := raft.Read(s); e != api.OK || !alike(api.Core{}, []api.Msg{got}, api.Core{}, []api.Msg{m}) {
			t.Fatalf("Read of %x: %v, %v", s, got, e)
		}
		b := []byte(s)
		for range 1 + r.Intn(2) {
			b[r.Intn(min(len(b), 30))] = []byte{0, 1, 2, 3, 4, 5, 7, 17, 248, 255, byte(r.Intn(256))}[r.Intn(11)]
		}
		got, e := raft.Read(string(b))
		if e != api.OK {
			if e != api.ErrForm || !reflect.DeepEqual(got, api.Msg{}) {
				t.Fatalf("Read of %x: %v, %v", b, got, e)
			}
			continue
		}
		read++
		if s, e := raft.Write(got); s != string(b) || e != api.OK {
			t.Fatalf("Read of %x: %v, whose text is %x, %v", b, got, s, e)
		}
	}
	if read < 1000 {
		t.Errorf("only %d changed texts were read", read)
	}
}

// R3: what is read shares no memory with the text.
func TestMemoryOfTexts(t *testing.T) {
	for _, m := range []api.Msg{logs(1, 0, 0, 0, "1:abcd"), snap(1, api.Snap{Text: "abcd"})} {
		s, _ := raft.Write(m)
		b := []byte(s)
		got, e := raft.Read(unsafe.String(&b[0], len(b)))
		clear(b)
		if e != api.OK || !alike(api.Core{}, []api.Msg{got}, api.Core{}, []api.Msg{m}) {
			t.Errorf("Read: %v, %v", got, e)
		}
	}
}
