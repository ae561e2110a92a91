package net_test

import (
	"cmp"
	"fmt"
	"math"
	"math/rand"
	"reflect"
	"slices"
	"strings"
	"testing"
	"unsafe"

	"auspice/api"
	"auspice/net"
)

// far is the last time there is.
const far = api.MaxIndex

// got is a message from one node to another one, which its Index tells from others.
func got(from, to, index int) api.Msg {
	return api.Msg{Kind: api.MsgGot, From: from, To: to, Index: index}
}

// big is a message that names all that a message of entries may.
func big() api.Msg {
	return api.Msg{Kind: api.MsgLog, From: 6, To: 0, Term: 9, Index: 5, LogTerm: 2, Commit: 4, Entries: []api.Entry{
		{Term: 3, Kind: api.EntryText, Text: "text\x00\xff"}, {Term: 3, Kind: api.EntryNoop}, {Term: 9, Kind: api.EntryMask, Mask: 127},
	}}
}

// snap is a message of a snapshot.
func snap() api.Msg {
	return api.Msg{Kind: api.MsgSnap, From: 1, To: 2, Term: 3, Snap: api.Snap{Index: 7, Term: 2, Mask: 5, Text: "some text"}}
}

// sends fails, if Send does not answer that.
func sends(t *testing.T, n *net.Net, now int, m api.Msg, delay, id int, e api.Errno) {
	t.Helper()
	if i, f := n.Send(now, m, delay); i != id || f != e {
		t.Errorf("Send(%d, %.100v, %d): %d, %d, want %d, %d", now, m, delay, i, f, id, e)
	}
}

// twice fails, if Twice does not answer that.
func twice(t *testing.T, n *net.Net, of, now, delay, id int, e api.Errno) {
	t.Helper()
	if i, f := n.Twice(of, now, delay); i != id || f != e {
		t.Errorf("Twice(%d, %d, %d): %d, %d, want %d, %d", of, now, delay, i, f, id, e)
	}
}

// comes fails, if what is due are not these messages, in this order.
func comes(t *testing.T, n *net.Net, now int, want ...api.Msg) {
	t.Helper()
	if l := n.Due(now); !alike(l, want) {
		t.Errorf("Due(%d): %.300v, want %.300v", now, l, want)
	}
}

// alike tells whether two lists of messages are the same. Of their lists nil ones stand for empty ones.
func alike(l, k []api.Msg) bool {
	return slices.EqualFunc(l, k, func(a, b api.Msg) bool {
		if len(a.Entries)+len(b.Entries) == 0 {
			a.Entries, b.Entries = nil, nil
		}
		return reflect.DeepEqual(a, b)
	})
}

// has fails, if not so many messages are under way.
func has(t *testing.T, n *net.Net, want int) {
	t.Helper()
	if n.Len() != want {
		t.Errorf("Len: %d, want %d", n.Len(), want)
	}
}

// 21.1

func TestNew(t *testing.T) {
	n := net.New()
	has(t, n, 0)
	comes(t, n, math.MaxInt)
	for a := range api.MaxNodes {
		for b := range api.MaxNodes {
			if a != b {
				sends(t, n, 0, got(a, b, 0), 0, n.Len()+1, api.OK)
			}
		}
	}
	has(t, n, 42)
}

func TestSend(t *testing.T) {
	n := net.New()
	sends(t, n, 0, got(0, 1, 1), 2, 1, api.OK)
	comes(t, n, 1)
	has(t, n, 1)
	comes(t, n, 2, got(0, 1, 1))
	has(t, n, 0)
	comes(t, n, 2)
	// Numbers go on, whether or not what had them is still under way; what is like is sent anew.
	sends(t, n, 5, got(0, 1, 1), 0, 2, api.OK)
	sends(t, n, 5, got(0, 1, 1), 0, 3, api.OK)
	has(t, n, 2)
	comes(t, n, 5, got(0, 1, 1), got(0, 1, 1))
	// All that a message says comes, at the last time there is, and at the last that there can be.
	sends(t, n, far, big(), 0, 4, api.OK)
	sends(t, n, 0, snap(), far, 5, api.OK)
	sends(t, n, far, snap(), far, 6, api.OK)
	comes(t, n, far-1)
	comes(t, n, far, big(), snap())
	comes(t, n, 2*far-1)
	comes(t, n, 2*far, snap())
}

func TestSendErrors(t *testing.T) {
	n := net.New()
	n.Cut(0, 1, true)
	sends(t, n, 3, got(2, 1, 0), 3, 1, api.OK)
	wrong := snap()
	wrong.Snap.Mask = 128
	long := big()
	long.Entries[0].Text = strings.Repeat("x", api.MaxCmd+1)
	many := big()
	many.Entries = make([]api.Entry, 17)
	for _, m := range []api.Msg{{}, {Kind: api.MsgGot}, got(0, 0, 1), got(-1, 0, 1), got(0, 7, 1), got(0, 1, -1), got(0, 1, far+1), {Kind: 6, To: 1}, {Kind: api.MsgAsk, To: 1, Commit: 1}, wrong, long, many} {
		sends(t, n, 0, m, 0, 0, api.ErrArg)
		sends(t, n, -1, m, far+1, 0, api.ErrArg)
	}
	for _, at := range []int{-1, far + 1, math.MinInt, math.MaxInt} {
		sends(t, n, at, got(0, 2, 1), 0, 0, api.ErrArg)
		sends(t, n, 0, got(0, 2, 1), at, 0, api.ErrArg)
		// That a number is no time is told ahead of who is cut off.
		sends(t, n, at, got(0, 1, 1), 0, 0, api.ErrArg)
		sends(t, n, 0, got(1, 0, 1), at, 0, api.ErrArg)
		twice(t, n, 1, at, 0, 0, api.ErrArg)
		twice(t, n, 1, 0, at, 0, api.ErrArg)
	}
	has(t, n, 1)
	comes(t, n, math.MaxInt, got(2, 1, 0))
	sends(t, n, 0, got(2, 1, 0), 0, 2, api.OK) // no number was lost by an error
}

func TestFull(t *testing.T) {
	n := net.New()
	for i := range api.MaxItems {
		sends(t, n, i, got(0, 1, i), 0, i+1, api.OK)
	}
	n.Cut(0, 2, true)
	sends(t, n, 0, got(0, 1, 0), 0, 0, api.ErrFull)
	twice(t, n, 9, 0, 0, 0, api.ErrFull)
	sends(t, n, 0, got(0, 2, 0), 0, 0, api.OK) // cut off: that is told ahead of there being no room
	sends(t, n, -1, got(0, 1, 0), 0, 0, api.ErrArg)
	has(t, n, api.MaxItems)
	if !n.Lose(5) {
		t.Error("a message can't be lost")
	}
	twice(t, n, 9, 1, 1, api.MaxItems+1, api.OK)
	sends(t, n, 0, got(0, 1, 0), 0, 0, api.ErrFull)
	comes(t, n, 1, got(0, 1, 0), got(0, 1, 1))
	sends(t, n, 0, got(0, 1, 7), 0, api.MaxItems+2, api.OK)
	comes(t, n, 2, got(0, 1, 7), got(0, 1, 2), got(0, 1, 8))
	n.Clear()
	has(t, n, 0)
	sends(t, n, 0, got(0, 1, 7), 0, api.MaxItems+3, api.OK)
}

func TestLose(t *testing.T) {
	n := net.New()
	for i := range 4 {
		sends(t, n, 0, got(0, 1, i+1), 0, i+1, api.OK)
	}
	for _, x := range []struct {
		id   int
		want bool
	}{{0, false}, {5, false}, {-1, false}, {math.MaxInt, false}, {math.MinInt, false}, {2, true}, {2, false}, {4, true}} {
		if n.Lose(x.id) != x.want {
			t.Errorf("Lose(%d) is not %v", x.id, x.want)
		}
	}
	has(t, n, 2)
	for _, gone := range []int{2, 4} {
		twice(t, n, gone, 0, 0, 0, api.ErrNone)
	}
	comes(t, n, 0, got(0, 1, 1), got(0, 1, 3))
	if n.Lose(1) || n.Lose(3) {
		t.Error("what came is lost once more")
	}
	sends(t, n, 0, got(0, 1, 9), 0, 5, api.OK)
}

func TestTwice(t *testing.T) {
	n := net.New()
	for _, id := range []int{0, 1, -1, math.MaxInt, math.MinInt} {
		twice(t, n, id, 0, 0, 0, api.ErrNone)
		twice(t, n, id, -1, 0, 0, api.ErrNone) // told ahead of what Send says
	}
	sends(t, n, 0, big(), 9, 1, api.OK)
	twice(t, n, 1, 2, 3, 2, api.OK)
	twice(t, n, 1, 9, 1, 3, api.OK)
	twice(t, n, 2, far, far, 4, api.OK)
	has(t, n, 4)
	comes(t, n, 4)
	comes(t, n, 5, big())
	twice(t, n, 2, 5, 0, 0, api.ErrNone)
	n.Cut(0, 6, true)
	twice(t, n, 1, 5, 0, 0, api.OK)
	twice(t, n, 1, -1, 0, 0, api.ErrArg)
	has(t, n, 3)
	n.Cut(6, 0, false)
	twice(t, n, 1, 5, 0, 5, api.OK)
	comes(t, n, 5, big())
	comes(t, n, 10, big(), big())
	comes(t, n, 2*far, big())
	twice(t, n, 4, 0, 0, 0, api.ErrNone)
}

// 21.2

func TestCut(t *testing.T) {
	n := net.New()
	both := func(a, b int, off bool) {
		t.Helper()
		for _, m := range []api.Msg{got(a, b, 1), got(b, a, 1)} {
			id, e := n.Send(0, m, 0)
			if e != api.OK || off != (id == 0) {
				t.Errorf("%d to %d: %d, %d", m.From, m.To, id, e)
			}
		}
		n.Clear()
	}
	both(1, 2, false)
	n.Cut(2, 1, true)
	both(1, 2, true)
	both(1, 3, false)
	both(2, 3, false)
	n.Cut(1, 2, true)
	both(1, 2, true)
	n.Clear() // what is under way goes, not who is cut off
	both(1, 2, true)
	n.Cut(1, 2, false)
	both(1, 2, false)
	n.Cut(1, 2, false)
	both(1, 2, false)
	n.Cut(0, 6, true)
	for _, x := range [][2]int{{0, 0}, {1, 1}, {-1, 0}, {0, -1}, {7, 0}, {0, 7}, {math.MinInt, 1}, {1, math.MaxInt}} {
		n.Cut(x[0], x[1], true)
		n.Cut(x[1], x[0], true)
	}
	for a := range api.MaxNodes {
		for b := range a {
			both(a, b, a == 6 && b == 0)
		}
	}
}

func TestCutWhileUnderWay(t *testing.T) {
	n := net.New()
	sends(t, n, 0, got(0, 1, 1), 5, 1, api.OK)
	sends(t, n, 0, got(1, 0, 2), 5, 2, api.OK)
	sends(t, n, 0, got(0, 2, 3), 5, 3, api.OK)
	sends(t, n, 0, got(0, 1, 4), 6, 4, api.OK)
	n.Cut(1, 0, true)
	has(t, n, 4) // they are lost when they would come, not ahead of it
	comes(t, n, 5, got(0, 2, 3))
	has(t, n, 1)
	for _, id := range []int{1, 2, 3} {
		if n.Lose(id) {
			t.Errorf("%d is still under way", id)
		}
	}
	n.Cut(0, 1, false)
	comes(t, n, 5) // what was lost does not come
	comes(t, n, 6, got(0, 1, 4))
	// Who is cut off in between only, hears.
	sends(t, n, 6, got(0, 1, 5), 2, 5, api.OK)
	n.Cut(0, 1, true)
	comes(t, n, 7)
	n.Cut(0, 1, false)
	comes(t, n, 8, got(0, 1, 5))
}

func TestDueInOrder(t *testing.T) {
	n := net.New()
	for i, at := range []int{7, 3, 7, 0, 3, 9, 3} {
		sends(t, n, 0, got(i%3, 3, i), at, i+1, api.OK)
	}
	comes(t, n, -1)
	comes(t, n, math.MinInt)
	comes(t, n, 3, got(0, 3, 3), got(1, 3, 1), got(1, 3, 4), got(0, 3, 6))
	has(t, n, 3)
	comes(t, n, 1)
	comes(t, n, math.MaxInt, got(0, 3, 0), got(2, 3, 2), got(2, 3, 5))
	has(t, n, 0)
	// A time that is past is one, too.
	sends(t, n, 1, got(0, 3, 8), 0, 8, api.OK)
	comes(t, n, 0)
	comes(t, n, 9, got(0, 3, 8))
}

func TestClear(t *testing.T) {
	n := net.New()
	n.Clear()
	sends(t, n, far, got(0, 1, 1), far, 1, api.OK)
	sends(t, n, 0, got(0, 1, 2), 0, 2, api.OK)
	n.Clear()
	has(t, n, 0)
	if n.Lose(1) || n.Lose(2) {
		t.Error("what was cleared is lost once more")
	}
	twice(t, n, 2, 0, 0, 0, api.ErrNone)
	comes(t, n, math.MaxInt)
	sends(t, n, 0, got(0, 1, 3), 0, 3, api.OK)
	comes(t, n, 0, got(0, 1, 3))
}

func TestNilNet(t *testing.T) {
	var n *net.Net
	sends(t, n, 0, got(0, 1, 1), 0, 0, api.ErrArg)
	sends(t, n, -1, api.Msg{}, -1, 0, api.ErrArg)
	twice(t, n, 1, 0, 0, 0, api.ErrArg)
	n.Cut(0, 1, true)
	n.Clear()
	comes(t, n, math.MaxInt)
	has(t, n, 0)
	if n.Lose(1) {
		t.Error("a nil net loses a message")
	}
}

// 21.3

// sent is what a net is held against: a message, its number and its time.
type sent struct {
	id, at int
	m      api.Msg
}

// held is a net, and what is under way in it as the chapter tells it.
type held struct {
	t    *testing.T
	r    *rand.Rand
	n    *net.Net
	way  []sent
	last int
	off  map[[2]int]bool
}

// isOff tells whether a message's nodes are cut off.
func (h *held) isOff(m api.Msg) bool { return h.off[[2]int{min(m.From, m.To), max(m.From, m.To)}] }

// note is what Send answers, and what comes of it.
func (h *held) note(now int, m api.Msg, delay int, may bool) (int, api.Errno) {
	switch {
	case !may || now < 0 || now > far || delay < 0 || delay > far:
		return 0, api.ErrArg
	case h.isOff(m):
		return 0, api.OK
	case len(h.way) >= api.MaxItems:
		return 0, api.ErrFull
	}
	h.last++
	h.way = append(h.way, sent{h.last, now + delay, m})
	return h.last, api.OK
}

// place is where a number is under way, -1 if it is not.
func (h *held) place(id int) int {
	return slices.IndexFunc(h.way, func(x sent) bool { return x.id == id })
}

// due is what comes, and goes.
func (h *held) due(now int) (l []api.Msg) {
	slices.SortFunc(h.way, func(x, y sent) int { return cmp.Or(cmp.Compare(x.at, y.at), cmp.Compare(x.id, y.id)) })
	for len(h.way) > 0 && h.way[0].at <= now {
		if !h.isOff(h.way[0].m) {
			l = append(l, h.way[0].m)
		}
		h.way = h.way[1:]
	}
	return l
}

// any is a message, and whether it may be.
func (h *held) any() (api.Msg, bool) {
	a, b := h.r.Intn(8), h.r.Intn(7)
	may := a < 7 && a != b
	if h.r.Intn(2) == 0 {
		return got(a, b, h.r.Intn(1000)), may
	}
	m := big()
	m.From, m.To, m.Entries = a, b, m.Entries[h.r.Intn(4):]
	m.Index = h.r.Intn(1000)
	return m, may
}

// goesOn lets something happen, and holds the answer against what it should be.
func (h *held) goesOn(now int) {
	h.t.Helper()
	switch h.r.Intn(8) {
	default:
		m, may := h.any()
		delay := h.r.Intn(40) - 1
		id, e := h.note(now, m, delay, may)
		sends(h.t, h.n, now, m, delay, id, e)
	case 0:
		id := h.r.Intn(h.last + 2)
		i := h.place(id)
		if h.n.Lose(id) != (i >= 0) {
			h.t.Errorf("Lose(%d) is not %v", id, i >= 0)
		}
		if i >= 0 {
			h.way = slices.Delete(h.way, i, i+1)
		}
	case 1:
		of := h.r.Intn(h.last + 2)
		id, e := 0, api.ErrNone
		if i := h.place(of); i >= 0 {
			id, e = h.note(now, h.way[i].m, 7, true)
		}
		twice(h.t, h.n, of, now, 7, id, e)
	case 2:
		a, b, off := h.r.Intn(8), h.r.Intn(8), h.r.Intn(3) == 0
		h.n.Cut(a, b, off)
		if a != b && a < 7 && b < 7 {
			h.off[[2]int{min(a, b), max(a, b)}] = off
		}
	case 3:
		comes(h.t, h.n, now, h.due(now)...)
	}
	has(h.t, h.n, len(h.way))
}

func TestNetIsAsTold(t *testing.T) {
	for seed := range 60 {
		h := &held{t: t, r: rand.New(rand.NewSource(int64(seed))), n: net.New(), off: map[[2]int]bool{}}
		for i := range 800 {
			h.goesOn(i / 4)
			if h.r.Intn(300) == 0 {
				h.n.Clear()
				h.way = nil
			}
			if t.Failed() {
				t.Fatal("seed ", seed)
			}
		}
		comes(t, h.n, math.MaxInt, h.due(math.MaxInt)...)
	}
}

// What is told was sent, not ahead of its time, and each number once.
func TestEachComesOnce(t *testing.T) {
	r := rand.New(rand.NewSource(21))
	n := net.New()
	at := map[int]int{}
	for now := range 2000 {
		delay := r.Intn(50)
		id, _ := n.Send(now, got(r.Intn(3), 3, now), delay)
		if _, there := at[now]; there || id != now+1 {
			t.Fatalf("the number %d comes again", id)
		}
		at[now] = now + delay
		for _, m := range n.Due(now) {
			if want, there := at[m.Index]; !there || want != now {
				t.Fatalf("%v at %d, want it at %d", m, now, want)
			}
			delete(at, m.Index)
		}
	}
	if len(at) != n.Len() {
		t.Errorf("%d are under way, want %d", n.Len(), len(at))
	}
}

// R3: what is handed in and out is not kept, and what is handed out shares no memory.
func TestNothingIsShared(t *testing.T) {
	n := net.New()
	m := big()
	sends(t, n, 0, m, 0, 1, api.OK)
	twice(t, n, 1, 0, 0, 2, api.OK)
	m.Entries[0].Term, m.Entries[1] = 9, api.Entry{}
	twice(t, n, 1, 0, 1, 3, api.OK)
	l := append(n.Due(0), n.Due(1)...)
	if want := []api.Msg{big(), big(), big()}; !alike(l, want) {
		t.Fatalf("what was handed in was kept: %v", l)
	}
	l[0].Entries[0].Text = "other"
	if l[1].Entries[0].Text != big().Entries[0].Text || l[2].Entries[0].Text != big().Entries[0].Text {
		t.Error("what is handed out shares entries")
	}
	texts := []string{m.Entries[0].Text, l[1].Entries[0].Text, l[2].Entries[0].Text}
	for i, a := range texts {
		for _, b := range texts[:i] {
			if unsafe.StringData(a) == unsafe.StringData(b) {
				t.Errorf("%q shares memory", a)
			}
		}
	}
}

// R1: no argument lets a call panic.
func TestAnyArguments(t *testing.T) {
	r := rand.New(rand.NewSource(1))
	edge := []int{math.MinInt, -1, 0, 1, 2, 6, 7, far, far + 1, math.MaxInt}
	pick := func() int { return edge[r.Intn(len(edge))] }
	n := net.New()
	for range 20000 {
		m := api.Msg{Kind: r.Intn(8) - 1, From: pick(), To: pick(), Term: pick(), Index: pick() * r.Intn(2), Commit: pick() * r.Intn(2)}
		if r.Intn(2) == 0 {
			m = got(r.Intn(7), r.Intn(7), 1)
		}
		id, e := n.Send(pick(), m, pick())
		if e != api.OK && id != 0 {
			t.Fatal(fmt.Sprint(id, " beside the error ", e))
		}
		n.Twice(pick(), pick(), pick())
		n.Cut(pick(), pick(), r.Intn(3) == 0)
		n.Lose(pick())
		n.Due(pick())
		if r.Intn(100) == 0 {
			n.Clear()
		}
	}
}
