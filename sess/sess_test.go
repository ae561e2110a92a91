package sess_test

import (
	"math"
	"math/rand"
	"slices"
	"testing"

	"auspice/api"
	"auspice/bits"
	"auspice/sess"
)

// draws is a row of numbers that is the same at each run.
func draws() *rand.Rand { return rand.New(rand.NewSource(17)) }

// is fails, if an error is not the one that is wanted.
func is(t *testing.T, what string, e, want api.Errno) {
	t.Helper()
	if e != want {
		t.Errorf("%s: error %d, want %d", what, e, want)
	}
}

// of is a table of these sessions, made by its text.
func of(t *testing.T, l ...api.Session) *sess.Table {
	t.Helper()
	s := bits.Num(uint64(len(l)))
	for _, x := range l {
		s += bits.Num(uint64(x.ID)) + bits.Num(uint64(x.Seq))
	}
	x, e := sess.Read(s)
	if x == nil || e != api.OK {
		t.Fatalf("Read of the text of %v: %v, %d", l, x, e)
	}
	return x
}

// has fails, if a table's sessions are not these.
func has(t *testing.T, what string, x *sess.Table, want ...api.Session) {
	t.Helper()
	if l := x.All(); !slices.Equal(l, want) {
		t.Errorf("%s: the sessions are %v, want %v", what, l, want)
	}
}

// full is a table with as many sessions as there may be: 10, 20, 30 ..
func full(t *testing.T) *sess.Table {
	t.Helper()
	x := sess.New()
	for i := range 32 {
		is(t, "Open", x.Open((i+1)*10), api.OK)
	}
	return x
}

// 17.1

func TestNew(t *testing.T) {
	x := sess.New()
	has(t, "New", x)
	if s := x.Text(); s != "\x00" {
		t.Errorf("the text of no sessions: %x", s)
	}
	if sess.New() == x {
		t.Error("two tables are one")
	}
}

func TestOpen(t *testing.T) {
	x := sess.New()
	for _, id := range []int{0, -1, math.MinInt, api.MaxIndex + 1, math.MaxInt} {
		is(t, "Open of no number of a session", x.Open(id), api.ErrArg)
	}
	has(t, "numbers of no session", x)
	for _, id := range []int{7, api.MaxIndex, 1, 9, 8} {
		is(t, "Open", x.Open(id), api.OK)
		is(t, "Open once more", x.Open(id), api.ErrThere)
	}
	has(t, "five", x, api.Session{ID: 1}, api.Session{ID: 7}, api.Session{ID: 8}, api.Session{ID: 9}, api.Session{ID: api.MaxIndex})
	x.Take(7, 1)
	is(t, "Open of one of which events came", x.Open(7), api.ErrThere)
	has(t, "that one", x, api.Session{ID: 1}, api.Session{ID: 7, Seq: 1}, api.Session{ID: 8}, api.Session{ID: 9}, api.Session{ID: api.MaxIndex})
}

func TestFull(t *testing.T) {
	x := full(t)
	was := x.Text()
	for _, id := range []int{1, 15, 95, 321, api.MaxIndex} {
		is(t, "Open beyond 32", x.Open(id), api.ErrFull)
	}
	is(t, "Open of the first one, with 32", x.Open(10), api.ErrThere)
	is(t, "Open of the last one, with 32", x.Open(320), api.ErrThere)
	is(t, "Open of 0, with 32", x.Open(0), api.ErrArg)
	is(t, "Open of too great a number, with 32", x.Open(api.MaxIndex+1), api.ErrArg)
	if x.Text() != was || len(x.All()) != 32 {
		t.Errorf("a full table became %v", x.All())
	}
	is(t, "Close, with 32", x.Close(100), api.OK)
	is(t, "Open of another one, with 31", x.Open(15), api.OK)
	is(t, "Open, with 32 again", x.Open(100), api.ErrFull)
}

func TestClose(t *testing.T) {
	x := of(t, api.Session{ID: 2, Seq: 5}, api.Session{ID: 4, Seq: 6}, api.Session{ID: 6, Seq: 7})
	for _, id := range []int{0, -1, 1, 3, 5, 7, api.MaxIndex, api.MaxIndex + 1, math.MinInt, math.MaxInt} {
		is(t, "Close of none", x.Close(id), api.ErrNone)
	}
	has(t, "none was closed", x, api.Session{ID: 2, Seq: 5}, api.Session{ID: 4, Seq: 6}, api.Session{ID: 6, Seq: 7})
	is(t, "Close", x.Close(4), api.OK)
	is(t, "Close once more", x.Close(4), api.ErrNone)
	has(t, "two", x, api.Session{ID: 2, Seq: 5}, api.Session{ID: 6, Seq: 7})
	is(t, "Open anew", x.Open(4), api.OK)
	has(t, "opened anew", x, api.Session{ID: 2, Seq: 5}, api.Session{ID: 4}, api.Session{ID: 6, Seq: 7})
	for _, id := range []int{6, 2, 4} {
		is(t, "Close of all", x.Close(id), api.OK)
	}
	has(t, "all closed", x)
	is(t, "Close, with none", x.Close(2), api.ErrNone)
}

// 17.2

func TestExample(t *testing.T) {
	x := sess.New()
	x.Open(5)
	for i, want := range []struct {
		id, seq int
		fresh   bool
		e       api.Errno
	}{{5, 1, true, api.OK}, {5, 1, false, api.OK}, {5, 3, false, api.ErrGap}, {6, 1, false, api.ErrNone}} {
		if fresh, e := x.Take(want.id, want.seq); fresh != want.fresh || e != want.e {
			t.Errorf("the call %d: %v, %d", i, fresh, e)
		}
	}
}

// told is an event of a session, and what is to become of it.
type told struct {
	id, seq int
	fresh   bool
	e       api.Errno
}

// tells are events that come to the sessions 3 (no event came), 5 (four came), 7 (all but one came), and 9 (all that may).
func tells() []told {
	const most = api.MaxIndex
	l := []told{
		{3, 1, true, api.OK}, {3, 2, false, api.ErrGap}, {3, most, false, api.ErrGap},
		{5, 1, false, api.OK}, {5, 3, false, api.OK}, {5, 4, false, api.OK}, {5, 5, true, api.OK}, {5, 6, false, api.ErrGap}, {5, most, false, api.ErrGap},
		{7, 1, false, api.OK}, {7, most - 1, false, api.OK}, {7, most, true, api.OK},
		{9, 1, false, api.OK}, {9, most - 1, false, api.OK}, {9, most, false, api.OK},
	}
	for _, id := range []int{3, 5, 7, 9} {
		for _, seq := range []int{0, -1, math.MinInt, most + 1, math.MaxInt} {
			l = append(l, told{id, seq, false, api.ErrArg})
		}
	}
	for _, id := range []int{0, -1, 1, 4, 10, most, most + 1, math.MinInt, math.MaxInt} {
		for _, seq := range []int{1, 5, most, 0, -1, math.MinInt, most + 1, math.MaxInt} {
			l = append(l, told{id, seq, false, api.ErrNone})
		}
	}
	return l
}

func TestMayAndTake(t *testing.T) {
	for _, v := range tells() {
		was := []api.Session{{ID: 3}, {ID: 5, Seq: 4}, {ID: 7, Seq: api.MaxIndex - 1}, {ID: 9, Seq: api.MaxIndex}}
		x := of(t, was...)
		for range 2 {
			if fresh, e := x.May(v.id, v.seq); fresh != v.fresh || e != v.e {
				t.Errorf("May(%d, %d): %v, %d, want %v, %d", v.id, v.seq, fresh, e, v.fresh, v.e)
			}
			has(t, "May", x, was...)
		}
		if fresh, e := x.Take(v.id, v.seq); fresh != v.fresh || e != v.e {
			t.Errorf("Take(%d, %d): %v, %d, want %v, %d", v.id, v.seq, fresh, e, v.fresh, v.e)
		}
		if v.fresh {
			was[(v.id-3)/2].Seq = v.seq
			if fresh, e := x.May(v.id, v.seq); fresh || e != api.OK {
				t.Errorf("May(%d, %d), as it came: %v, %d", v.id, v.seq, fresh, e)
			}
		}
		has(t, "Take", x, was...)
	}
}

// 17.3

const most = "\xfc\x80\x00\x00\x00\x00" // the bytes of api.MaxIndex

func TestTexts(t *testing.T) {
	for s, l := range map[string][]api.Session{
		"\x00":                                 nil,
		"\x01\x05\x00":                         {{ID: 5}},
		"\x02\x01\x03\x02\x00":                 {{ID: 1, Seq: 3}, {ID: 2}},
		"\x02\xf7\xf8\xf8\xf8\xf8\xf7":         {{ID: 247, Seq: 248}, {ID: 248, Seq: 247}},
		"\x01" + most + most:                   {{ID: api.MaxIndex, Seq: api.MaxIndex}},
		"\x02\xf9\x01\x2c\x01" + most + "\x00": {{ID: 300, Seq: 1}, {ID: api.MaxIndex}},
	} {
		x, e := sess.Read(s)
		is(t, "Read", e, api.OK)
		has(t, "Read", x, l...)
		if x.Text() != s {
			t.Errorf("the text of %v: %x, want %x", l, x.Text(), s)
		}
	}
}

func TestTextOfFull(t *testing.T) {
	x := full(t)
	want := "\x20"
	for i := range 32 {
		for range i {
			x.Take(10*(i+1), x.All()[i].Seq+1)
		}
		want += bits.Num(uint64(10*(i+1))) + string([]byte{byte(i)})
	}
	if x.Text() != want {
		t.Errorf("the text of 32 sessions: %x, want %x", x.Text(), want)
	}
	y, e := sess.Read(want)
	is(t, "Read of 32 sessions", e, api.OK)
	has(t, "32 sessions", y, x.All()...)
	is(t, "Open, with 32 that are read", y.Open(1), api.ErrFull)
}

// num is the bytes of numbers.
func num(l ...uint64) string {
	s := ""
	for _, n := range l {
		s += bits.Num(n)
	}
	return s
}

// none fails, if a text is one of a table.
func none(t *testing.T, what, s string) {
	t.Helper()
	if x, e := sess.Read(s); x != nil || e != api.ErrForm {
		t.Errorf("Read of %s, %.100x: %v, %d", what, s, x.All(), e)
	}
}

// row is the numbers and Seqs of so many sessions.
func row(n int) []uint64 {
	var l []uint64
	for i := range n {
		l = append(l, uint64(i+1), 0)
	}
	return l
}

func TestTextsOfNoTable(t *testing.T) {
	const beyond, top = api.MaxIndex + 1, math.MaxUint64
	for what, s := range map[string]string{
		"nothing": "", "no sessions and more": "\x00\x00", "a session is missing": "\x01", "a Seq is missing": "\x01\x05", "a number more": num(1, 5, 0, 0), "one of two": num(2, 5, 0), "an ID of two": num(2, 5, 0, 6), "two of one": num(1, 5, 0, 6, 0),
		"33 sessions": num(33) + num(row(33)...), "32 of 33 sessions": num(33) + num(row(32)...), "33 sessions and none": num(33), "300 sessions": num(300) + num(row(300)...), "2^63 sessions": num(1 << 63), "very many sessions": num(top), "very many sessions, one there": num(top, 1, 0),
		"ID 0": num(1, 0, 0), "ID 0 ahead of another one": num(2, 0, 0, 1, 0), "an ID too great": num(1, beyond, 0), "an ID of 2^63 - 1": num(1, 1<<63-1, 0), "an ID of 2^63": num(1, 1<<63, 0), "an ID of 2^63 and 5": num(1, 1<<63+5, 0), "the greatest ID": num(1, top, 0), "an ID of 2^32 above too great": num(1, 1<<39+1<<32, 0),
		"a Seq too great": num(1, 5, beyond), "a Seq of 2^63 - 1": num(1, 5, 1<<63-1), "a Seq of 2^63": num(1, 5, 1<<63), "the greatest Seq": num(1, 5, top), "a late Seq too great": num(2, 5, 0, 6, beyond),
		"IDs alike": num(2, 5, 0, 5, 0), "IDs alike, of other Seqs": num(2, 5, 1, 5, 2), "IDs that fall": num(2, 5, 0, 4, 0), "late IDs alike": num(3, 4, 0, 5, 0, 5, 0), "late IDs that fall": num(3, 4, 0, 6, 0, 5, 0), "an ID that falls to 0": num(2, 5, 0, 0, 0), "a late ID too great": num(2, 5, 0, beyond, 0), "a late ID of 2^63": num(2, 5, 0, 1<<63, 0),
		"a long number of sessions": "\xf8\x00", "a long ID": "\x01\xf8\x05\x00", "a long Seq": "\x01\x05\xf8\x00", "a longer ID": "\x01\xf9\x00\xf8\x00",
	} {
		none(t, what, s)
	}
	s := full(t).Text()
	for i := range len(s) {
		none(t, "a beginning", s[:i])
	}
	for _, more := range []string{"\x00", "\x01", "\xff", s} {
		none(t, "a text with more behind", s+more)
	}
}

func TestNil(t *testing.T) {
	var x *sess.Table
	for _, id := range []int{1, 0, -1, api.MaxIndex, api.MaxIndex + 1} {
		is(t, "Open of nil", x.Open(id), api.ErrArg)
		is(t, "Close of nil", x.Close(id), api.ErrArg)
		for _, seq := range []int{1, 0, -1, 2, api.MaxIndex + 1} {
			if fresh, e := x.May(id, seq); fresh || e != api.ErrArg {
				t.Errorf("May of nil: %v, %d", fresh, e)
			}
			if fresh, e := x.Take(id, seq); fresh || e != api.ErrArg {
				t.Errorf("Take of nil: %v, %d", fresh, e)
			}
		}
	}
	if l := x.All(); len(l) != 0 {
		t.Errorf("All of nil: %v", l)
	}
	if s := x.Text(); s != "\x00" {
		t.Errorf("Text of nil: %x", s)
	}
}

// changed is a text with some bytes changed, taken out or put in.
func changed(r *rand.Rand, s string) string {
	b := []byte(s)
	for range 1 + r.Intn(3) {
		i := r.Intn(len(b) + 1)
		switch r.Intn(3) {
		case 0:
			b = slices.Insert(b, i, byte(r.Intn(256)))
		case 1:
			b = slices.Delete(b, i, min(i+1, len(b)))
		case 2:
			if i < len(b) {
				b[i] += byte(r.Intn(3)) - 1
			}
		}
	}
	return string(b)
}

func TestAnyBytes(t *testing.T) {
	r := draws()
	read := 0
	for range 50000 {
		var l []api.Session
		for range r.Intn(5) {
			l = append(l, api.Session{ID: 1 + r.Intn(9) + 9*len(l), Seq: r.Intn(300)})
		}
		s := changed(r, of(t, l...).Text())
		x, e := sess.Read(s)
		if e != api.OK {
			none(t, "changed bytes", s)
			continue
		}
		read++
		last := 0
		for _, v := range x.All() {
			if v.ID <= last || v.ID > api.MaxIndex || v.Seq < 0 || v.Seq > api.MaxIndex {
				t.Fatalf("Read of %x: %v", s, x.All())
			}
			last = v.ID
		}
		if x.Text() != s {
			t.Fatalf("Read of %x: %v, written as %x", s, x.All(), x.Text())
		}
	}
	if read < 5000 {
		t.Errorf("only %d texts were read", read)
	}
}

// R3

func TestAnswersAreNewMemory(t *testing.T) {
	x := of(t, api.Session{ID: 1, Seq: 2}, api.Session{ID: 3, Seq: 4})
	l, other := x.All(), x.All()
	for i := range l {
		l[i] = api.Session{ID: 9, Seq: 9}
	}
	l = append(l, l...)
	want := []api.Session{{ID: 1, Seq: 2}, {ID: 3, Seq: 4}}
	has(t, "as an answer was changed", x, want...)
	if !slices.Equal(other, want) {
		t.Errorf("another answer became %v", other)
	}
	x.Take(1, 3)
	x.Close(3)
	if !slices.Equal(other, want) {
		t.Errorf("as the table went on, an answer became %v", other)
	}
}

// 17.4

// said is the sessions as the chapter says them: which is open, and how many of its events came.
type said map[int]int

// open, shut and tell are what the chapter says of a call.
func (m said) open(id int) api.Errno {
	_, there := m[id]
	switch {
	case id < 1 || id > 1<<39:
		return api.ErrArg
	case there:
		return api.ErrThere
	case len(m) == 32:
		return api.ErrFull
	}
	m[id] = 0
	return api.OK
}

func (m said) shut(id int) api.Errno {
	if _, there := m[id]; !there {
		return api.ErrNone
	}
	delete(m, id)
	return api.OK
}

func (m said) tell(id, seq int) (bool, api.Errno) {
	came, there := m[id]
	switch {
	case !there:
		return false, api.ErrNone
	case seq < 1 || seq > 1<<39:
		return false, api.ErrArg
	case seq <= came:
		return false, api.OK
	case seq > came+1:
		return false, api.ErrGap
	}
	return true, api.OK
}

// sorted are the sessions, rising.
func (m said) sorted() []api.Session {
	var l []api.Session
	for id, seq := range m {
		l = append(l, api.Session{ID: id, Seq: seq})
	}
	slices.SortFunc(l, func(a, b api.Session) int { return a.ID - b.ID })
	return l
}

func TestAnyCalls(t *testing.T) {
	r := draws()
	x, m := sess.New(), said{}
	count := map[api.Errno]int{}
	for i := range 200000 {
		id := r.Intn(40)
		seq := m[id] + r.Intn(4) - 1
		var e, want api.Errno
		switch k := r.Intn(100); {
		case k < 10:
			e, want = x.Open(id), m.open(id)
		case k < 11 || k < 15 && i%2000 > 1000:
			e, want = x.Close(id), m.shut(id)
		default:
			fresh, f := m.tell(id, seq)
			if got, e := x.May(id, seq); got != fresh || e != f {
				t.Fatalf("May(%d, %d): %v, %d, want %v, %d", id, seq, got, e, fresh, f)
			}
			if k < 50 {
				got, e := x.Take(id, seq)
				if got != fresh || e != f {
					t.Fatalf("Take(%d, %d): %v, %d, want %v, %d", id, seq, got, e, fresh, f)
				}
				if fresh {
					m[id] = seq
				}
			}
			e, want = f, f
		}
		if e != want {
			t.Fatalf("the call %d, of %d: %d, want %d", i, id, e, want)
		}
		count[e]++
		if l := m.sorted(); !slices.Equal(x.All(), l) {
			t.Fatalf("the call %d: the sessions are %v, want %v", i, x.All(), l)
		}
		if i%10 == 0 { // who is written and read goes on as who was not
			y, e := sess.Read(x.Text())
			if e != api.OK || !slices.Equal(y.All(), x.All()) {
				t.Fatalf("%v is written as %x, and read as %v, %d", x.All(), x.Text(), y.All(), e)
			}
			x = y
		}
	}
	for _, e := range []api.Errno{api.OK, api.ErrArg, api.ErrNone, api.ErrFull, api.ErrThere, api.ErrGap} {
		if count[e] < 300 {
			t.Errorf("the error %d came %d times only", e, count[e])
		}
	}
}

func TestEachEventCountsOnce(t *testing.T) {
	r := draws()
	for range 100 {
		x := sess.New()
		ids := []int{1 + r.Intn(5), 6 + r.Intn(5), api.MaxIndex - r.Intn(5)}
		for _, id := range ids {
			is(t, "Open", x.Open(id), api.OK)
		}
		const events = 20
		fresh := map[int][]int{}
		// Numbers in any order, each of them often enough to have had its turn.
		for range 6000 {
			id, seq := ids[r.Intn(3)], 1+r.Intn(events)
			if is, e := x.Take(id, seq); is {
				fresh[id] = append(fresh[id], seq)
			} else if seq <= len(fresh[id]) != (e == api.OK) || e != api.OK && e != api.ErrGap {
				t.Fatalf("Take(%d, %d), when %d came: %d", id, seq, len(fresh[id]), e)
			}
		}
		for _, id := range ids {
			for i, seq := range fresh[id] {
				if seq != i+1 {
					t.Fatalf("of %d these were fresh: %v", id, fresh[id])
				}
			}
			if len(fresh[id]) != events {
				t.Fatalf("of %d these were fresh: %v, want 1 to %d", id, fresh[id], events)
			}
		}
	}
}
