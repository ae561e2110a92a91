package client_test

import (
	"math"
	"strings"
	"testing"
	"unsafe"

	"auspice/api"
	"auspice/client"
)

// 22.1

func TestNewTeller(t *testing.T) {
	for _, n := range append(far(), 0, api.MaxNodes+1) {
		if client.NewTeller(n) != nil {
			t.Errorf("NewTeller(%d): not nil", n)
		}
	}
	for n := 1; n <= api.MaxNodes; n++ {
		x := teller(t, n)
		has(t, x, 0, 0, 0)
		silent(t, x)
		adds(t, x, nth(1))
		asks(t, x, 0, open)
	}
}

// may are events that may be added: what stands in Session and Seq does not count.
func may() (l []api.Event) {
	l = append(l, of(0, "a"), of(api.MaxIndex, "abcdefghijklmnop"), of(5, "z_9", fields(api.MaxFields)...),
		of(1, "a", whole("x", math.MinInt), number("y", math.Copysign(0, -1)), text("z", "")),
		of(1, "a", number("x", math.NaN()), number("y", math.Inf(1)), text("z", strings.Repeat("\xff", api.MaxText))),
		api.Event{Kind: "a", Fields: []api.Field{}})
	for _, n := range append(far(), 1, 9, api.MaxIndex) {
		l = append(l, api.Event{Session: n, Kind: "a"}, api.Event{Seq: n, Kind: "a"}, api.Event{Session: n, Seq: n, Stamp: 1, Kind: "b", Fields: fields(1)})
	}
	return l
}

// mayNot are events that may not.
func mayNot() (l []api.Event) {
	for _, n := range far() {
		l = append(l, of(n, "a"))
	}
	for _, s := range noWords() {
		l = append(l, of(1, s), of(1, "a", whole(s, 1)))
	}
	return append(l, api.Event{}, of(1, "a", fields(api.MaxFields+1)...), of(1, "a", whole("x", 1), whole("x", 1)), of(1, "a", whole("y", 1), whole("x", 1)),
		of(1, "a", api.Field{Name: "x"}), of(1, "a", api.Field{Name: "x", V: api.Value{Kind: 4}}), of(1, "a", api.Field{Name: "x", V: api.Value{Kind: api.Whole, S: "s"}}),
		of(1, "a", api.Field{Name: "x", V: api.Value{Kind: api.Text, F: math.Copysign(0, -1)}}), of(1, "a", text("x", strings.Repeat("s", api.MaxText+1))))
}

func TestAdd(t *testing.T) {
	x := teller(t, 3)
	for i, e := range may() {
		adds(t, x, e)
		has(t, x, 0, 0, i+1)
	}
	x.Told(api.Reply{N: 9}, 0)
	for i, e := range may() {
		asks(t, x, 0, told(t, e, 9, i+1))
		x.Told(api.Reply{N: i + 1}, 0)
		has(t, x, 9, i+1, len(may())-i-1)
	}
	silent(t, x)
}

func TestAddErrors(t *testing.T) {
	x := teller(t, 3, nth(1))
	for _, e := range mayNot() {
		if none := x.Add(e); none != api.ErrArg {
			t.Errorf("Add(%v): %d", e, none)
		}
	}
	has(t, x, 0, 0, 1)
	asks(t, x, 0, open)
}

func TestAddFull(t *testing.T) {
	x := teller(t, 3)
	for i := range api.MaxQueue {
		adds(t, x, nth(i))
	}
	for range 3 {
		if e := x.Add(nth(0)); e != api.ErrFull {
			t.Errorf("Add of one too many: %d", e)
		}
		if e := x.Add(of(-1, "a")); e != api.ErrArg {
			t.Errorf("Add of one too many that may not be: %d", e)
		}
	}
	has(t, x, 0, 0, api.MaxQueue)
	x.Told(api.Reply{N: 9}, 0)
	x.Told(api.Reply{N: 1}, 0)
	x.Told(api.Reply{Err: api.ErrStamp}, 0)
	adds(t, x, nth(300), nth(301))
	has(t, x, 9, 1, api.MaxQueue, nth(1))
	if e := x.Add(nth(0)); e != api.ErrFull {
		t.Errorf("Add of one too many, once more: %d", e)
	}
	for i := range api.MaxQueue {
		n := i + 2
		if n >= api.MaxQueue {
			n += 300 - api.MaxQueue
		}
		asks(t, x, 0, told(t, nth(n), 9, i+2))
		x.Told(api.Reply{N: i + 2}, 0)
	}
	has(t, x, 9, api.MaxQueue+1, 0, nth(1))
	silent(t, x)
}

func TestAsk(t *testing.T) {
	x := teller(t, 2)
	silent(t, x)
	adds(t, x, of(5, "ab", whole("x", -1), text("y", "s")), of(6, "b"))
	asks(t, x, 0, "\x01")
	x.Told(api.Reply{N: 300}, 1)
	asks(t, x, 0, "\x02"+"\xf9\x01\x2c"+"\x01"+"\x05"+"\x02ab"+"\x02"+"\x01x\x01\x01"+"\x01y\x03\x01s")
	x.Told(api.Reply{N: 1}, 1)
	asks(t, x, 0, "\x02"+"\xf9\x01\x2c"+"\x02"+"\x06"+"\x01b"+"\x00")
	x.Told(api.Reply{N: 2}, 1)
	silent(t, x)
	has(t, x, 300, 2, 0)
	adds(t, x, of(7, "c"))
	asks(t, x, 0, "\x02"+"\xf9\x01\x2c"+"\x03"+"\x07"+"\x01c"+"\x00")
}

func TestExample(t *testing.T) {
	x := teller(t, 3, nth(1))
	asks(t, x, 0, open)
	x.Told(api.Reply{N: 4}, 0)
	asks(t, x, 0, told(t, nth(1), 4, 1))
	x.Late()
	asks(t, x, 1, told(t, nth(1), 4, 1))
}

// 22.2

func TestNothingWaits(t *testing.T) {
	replies := []api.Reply{{}, {N: 1}, {N: 5}, {N: api.MaxIndex}, {Err: api.ErrNone}, {Err: api.ErrStamp}}
	for _, e := range others() {
		replies = append(replies, api.Reply{Err: e})
	}
	for _, r := range replies {
		for _, lead := range []int{-1, 0, 1, 2, 3} {
			x := teller(t, 3)
			x.Told(r, lead)
			has(t, x, 0, 0, 0)
			adds(t, x, nth(1))
			asks(t, x, 0, open)
			x = inSession(t, 4, nth(1))
			x.Told(api.Reply{N: 1}, 0)
			x.Told(r, lead)
			has(t, x, 4, 1, 0)
			adds(t, x, nth(2))
			asks(t, x, 1, told(t, nth(2), 4, 2))
		}
	}
}

func TestASessionComes(t *testing.T) {
	for _, n := range []int{1, 2, 40, api.MaxIndex - 1, api.MaxIndex} {
		x := teller(t, 3, nth(1), nth(2))
		x.Told(api.Reply{N: n}, 2)
		has(t, x, n, 0, 2)
		asks(t, x, 0, told(t, nth(1), n, 1))
	}
	for _, n := range append(far(), 0) {
		x := teller(t, 3, nth(1), nth(2))
		x.Told(api.Reply{N: n}, 2)
		has(t, x, 0, 0, 2)
		asks(t, x, 0, open)
	}
}

func TestAnEventComes(t *testing.T) {
	x := inSession(t, 9, nth(1), nth(2), nth(3), nth(4))
	for seq := range 4 {
		for _, n := range append(far(), 0, seq, seq+2, seq+3, 9, -seq, api.MaxIndex) {
			if n == seq+1 {
				continue
			}
			x.Told(api.Reply{N: n}, 2)
			has(t, x, 9, seq, 4-seq)
			asks(t, x, 1, told(t, nth(seq+1), 9, seq+1))
		}
		x.Told(api.Reply{N: seq + 1}, 2)
		has(t, x, 9, seq+1, 3-seq)
	}
	silent(t, x)
}

func TestThereIsNoSession(t *testing.T) {
	x := inSession(t, 9, nth(1), nth(2))
	x.Told(api.Reply{N: 1}, 0)
	x.Told(api.Reply{Err: api.ErrNone}, 2)
	has(t, x, 0, 0, 1)
	asks(t, x, 1, open)
	x.Told(api.Reply{N: 8}, 0)
	has(t, x, 8, 0, 1)
	asks(t, x, 1, told(t, nth(2), 8, 1))
}

func TestAStampFalls(t *testing.T) {
	x := inSession(t, 9, nth(1), nth(2), nth(3), nth(4))
	x.Told(api.Reply{Err: api.ErrStamp}, 2)
	has(t, x, 9, 0, 3, nth(1))
	asks(t, x, 1, told(t, nth(2), 9, 1))
	x.Told(api.Reply{N: 1}, 2)
	x.Told(api.Reply{Err: api.ErrStamp, N: 2}, 2)
	has(t, x, 9, 1, 1, nth(1), nth(3))
	asks(t, x, 1, told(t, nth(4), 9, 2))
	x.Told(api.Reply{Err: api.ErrStamp}, 2)
	has(t, x, 9, 1, 0, nth(1), nth(3), nth(4))
	silent(t, x)
	x.Told(api.Reply{Err: api.ErrStamp}, 2)
	has(t, x, 9, 1, 0, nth(1), nth(3), nth(4))
}

// What is refused is told as it was added, but without Session and Seq, whatever these were.
func TestRefusedHasNoSession(t *testing.T) {
	var want []api.Event
	for _, e := range may() {
		want = append(want, bare(e))
	}
	x := teller(t, 1, may()...)
	x.Told(api.Reply{N: 9}, 0)
	for i := range want {
		has(t, x, 9, 0, len(want)-i, want[:i]...)
		x.Told(api.Reply{Err: api.ErrStamp}, 0)
	}
	has(t, x, 9, 0, 0, want...)
}

// Nor has it those by which it was asked, in whichever session.
func TestRefusedHasNoSessionOfTheTeller(t *testing.T) {
	e := api.Event{Session: 9, Seq: 2, Stamp: 7, Kind: "a", Fields: fields(2)}
	x := teller(t, 1, nth(1), e, e, e)
	x.Told(api.Reply{N: 9}, 0)
	x.Told(api.Reply{N: 1}, 0)
	asks(t, x, 0, told(t, e, 9, 2))
	x.Told(api.Reply{Err: api.ErrStamp}, 0)
	x.Told(api.Reply{Err: api.ErrNone}, 0)
	has(t, x, 0, 0, 2, bare(e))
	x.Told(api.Reply{N: 12}, 0)
	asks(t, x, 0, told(t, e, 12, 1))
	x.Told(api.Reply{Err: api.ErrStamp}, 0)
	has(t, x, 12, 0, 1, bare(e), bare(e))
	x.Told(api.Reply{N: 1}, 0)
	has(t, x, 12, 1, 0, bare(e), bare(e))
}

// turns fails, unless a teller of three nodes that asks the node 1 asks those behind an error, by the leads that are told.
func turns(t *testing.T, begin func() *client.Teller, e api.Errno, text string, id, left int) {
	t.Helper()
	to := map[int]int{0: 0, 1: 1, 2: 2, 3: 2, 6: 2, 7: 2}
	for _, n := range far() {
		to[n] = 2
	}
	for lead, want := range to {
		for _, n := range []int{0, 1, 9} {
			x := begin()
			x.Told(api.Reply{Err: e, N: n}, lead)
			asks(t, x, want, text)
			has(t, x, id, 0, left)
		}
	}
}

func TestAnyOtherError(t *testing.T) {
	without := func() *client.Teller {
		x := teller(t, 3, nth(1), nth(2))
		x.Late()
		return x
	}
	with := func() *client.Teller { return inSession(t, 9, nth(1), nth(2)) }
	for _, e := range others() {
		turns(t, without, e, open, 0, 2)
		turns(t, with, e, told(t, nth(1), 9, 1), 9, 2)
	}
	turns(t, without, api.ErrNone, open, 0, 2)
	turns(t, without, api.ErrStamp, open, 0, 2)
}

// The next one behind the last one is 0, of any number of nodes.
func TestTheNextOne(t *testing.T) {
	for nodes := 1; nodes <= api.MaxNodes; nodes++ {
		x, y, z := teller(t, nodes, nth(1)), teller(t, nodes, nth(1)), teller(t, nodes)
		for i := range 3 * nodes {
			asks(t, x, i%nodes, open)
			asks(t, y, i%nodes, open)
			x.Late()
			y.Told(api.Reply{Err: api.ErrLead}, []int{-1, nodes, 7}[i%3])
			z.Late() // also where nothing waits
		}
		z.Late()
		adds(t, z, nth(1))
		asks(t, z, 1%nodes, open)
		for lead := range nodes {
			x.Told(api.Reply{Err: api.ErrLead}, lead)
			asks(t, x, lead, open)
		}
	}
}

// Late changes nothing but the node.
func TestLateKeepsAllElse(t *testing.T) {
	x := inSession(t, 9, nth(1), nth(2), nth(3))
	x.Told(api.Reply{N: 1}, 0)
	x.Told(api.Reply{Err: api.ErrStamp}, 0)
	for i := range 7 {
		has(t, x, 9, 1, 1, nth(2))
		asks(t, x, (1+i)%3, told(t, nth(3), 9, 2))
		x.Late()
	}
}

func TestNilTeller(t *testing.T) {
	var x *client.Teller
	for _, e := range append(may(), mayNot()...) {
		if none := x.Add(e); none != api.ErrArg {
			t.Errorf("Add to nil: %d", none)
		}
	}
	for _, e := range append(others(), api.OK, api.ErrNone, api.ErrStamp) {
		x.Told(api.Reply{Err: e, N: 1}, 0)
	}
	x.Late()
	silent(t, x)
	has(t, x, 0, 0, 0)
}

// What is handed in and out is not kept.
func TestATellerSharesNothing(t *testing.T) {
	want := of(1, "kind", text("name", "text"), whole("other", 7))
	bytes := []byte("kindnametext")
	cut := func(from, below int) string { return unsafe.String(&bytes[from], below-from) }
	in := of(1, cut(0, 4), text(cut(4, 8), cut(8, 12)), whole("other", 7))
	x := teller(t, 1, in)
	copy(bytes, "XXXXXXXXXXXX")
	in.Fields[1] = whole("zzz", 1)
	x.Told(api.Reply{N: 9}, 0)
	asks(t, x, 0, told(t, want, 9, 1))
	x.Told(api.Reply{Err: api.ErrStamp}, 0)
	a, b := x.Refused(), x.Refused()
	has(t, x, 9, 0, 0, want)
	for _, p := range [][2]string{{a[0].Kind, b[0].Kind}, {a[0].Fields[0].Name, b[0].Fields[0].Name}, {a[0].Fields[0].V.S, b[0].Fields[0].V.S}} {
		if unsafe.StringData(p[0]) == unsafe.StringData(p[1]) {
			t.Errorf("two answers share %q", p[0])
		}
	}
	a[0].Fields[0], a[0].Kind = whole("zzz", 1), "b"
	a[0] = nth(3)
	if !like(b, []api.Event{want}) {
		t.Errorf("one answer changed another one: %v", b)
	}
	has(t, x, 9, 0, 0, want)
}

// Two answers of Ask share no bytes.
func TestAsksShareNothing(t *testing.T) {
	x := inSession(t, 9, nth(1))
	a, _ := x.Ask()
	b, _ := x.Ask()
	if unsafe.StringData(a.Text) == unsafe.StringData(b.Text) {
		t.Errorf("two asks share %q", a.Text)
	}
}

// Two tellers have nothing in common.
func TestTellersAreApart(t *testing.T) {
	x, y := inSession(t, 9, nth(1), nth(2)), inSession(t, 5, nth(3))
	x.Told(api.Reply{N: 1}, 0)
	y.Told(api.Reply{Err: api.ErrStamp}, 0)
	x.Late()
	has(t, x, 9, 1, 1)
	has(t, y, 5, 0, 0, nth(3))
}
