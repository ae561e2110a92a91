package event

import (
	"math"
	"math/rand"
	"slices"
	"strconv"
	"strings"
	"testing"
	"unsafe"

	"auspice/api"
)

// draws is a row of numbers that is the same at each run.
func draws() *rand.Rand { return rand.New(rand.NewSource(1)) }

// whole, number64 and text are values of the three kinds.
func whole(n int) api.Value        { return api.Value{Kind: api.Whole, N: n} }
func number64(f float64) api.Value { return api.Value{Kind: api.Real, F: f} }
func text(s string) api.Value      { return api.Value{Kind: api.Text, S: s} }

// with is an event with some fields.
func with(l ...api.Field) api.Event { return api.Event{Kind: "a", Fields: l} }

// field is a field.
func field(name string, v api.Value) api.Field { return api.Field{Name: name, V: v} }

// numbered are so many fields whose names rise.
func numbered(n int) (l []api.Field) {
	for i := range n {
		l = append(l, field("f"+strconv.Itoa(i), whole(i)))
	}
	return l
}

// like tells whether two events are the same: one NaN is as good as another one, -0 and 0 are two.
func like(a, b api.Event) bool {
	if a.Session != b.Session || a.Seq != b.Seq || a.Stamp != b.Stamp || a.Kind != b.Kind {
		return false
	}
	return slices.EqualFunc(a.Fields, b.Fields, func(x, y api.Field) bool { return x.Name == y.Name && likeValues(x.V, y.V) })
}

func likeValues(x, y api.Value) bool {
	same := math.Float64bits(x.F) == math.Float64bits(y.F) || x.F != x.F && y.F != y.F
	return x.Kind == y.Kind && x.N == y.N && x.S == y.S && same
}

// 8.1

func TestWord(t *testing.T) {
	for _, s := range []string{"a", "z", "a0", "a9", "a_", "abcdefghijklmnop", "qrstuvwxyz", "a_______________", "any", "within"} {
		if !Word(s) {
			t.Errorf("Word(%q): false", s)
		}
	}
	for _, s := range []string{"", "0", "9a", "_", "_a", "A", "aB", "a-", "a.", "a b", " a", "a ", "a\x00", "\xe4", "aä", "abcdefghijklmnopq", strings.Repeat("a", 1000)} {
		if Word(s) {
			t.Errorf("Word(%q): true", s)
		}
	}
	for b := range 256 {
		c := byte(b)
		first := 'a' <= c && c <= 'z'
		if Word(string([]byte{c})) != first {
			t.Errorf("Word of the byte %d: %v", b, !first)
		}
		behind := first || '0' <= c && c <= '9' || c == '_'
		if Word(string([]byte{'a', c})) != behind || Word(string([]byte{'a', c, 'b'})) != behind {
			t.Errorf("Word of a and the byte %d: %v", b, !behind)
		}
	}
}

// texts are events that may be, with their texts.
func texts() []struct {
	e    api.Event
	text string
} {
	return []struct {
		e    api.Event
		text string
	}{
		{api.Event{Kind: "a"}, "\x00\x00\x00\x01a\x00"},
		{api.Event{Session: 1, Seq: 2, Stamp: 300, Kind: "tick_1"}, "\x01\x02\xf9\x01\x2c\x06tick_1\x00"},
		{api.Event{Session: api.MaxIndex, Seq: api.MaxIndex, Stamp: api.MaxIndex, Kind: "abcdefghijklmnop"},
			"\xfc\x80\x00\x00\x00\x00\xfc\x80\x00\x00\x00\x00\xfc\x80\x00\x00\x00\x00\x10abcdefghijklmnop\x00"},
		{with(field("x", whole(3))), "\x00\x00\x00\x01a\x01\x01x\x01\x06"},
		{with(field("x", whole(-1)), field("y", whole(math.MinInt))), "\x00\x00\x00\x01a\x02\x01x\x01\x01\x01y\x01\xff\xff\xff\xff\xff\xff\xff\xff\xff"},
		{with(field("x", whole(math.MaxInt))), "\x00\x00\x00\x01a\x01\x01x\x01\xff\xff\xff\xff\xff\xff\xff\xff\xfe"},
		{with(field("x", number64(1))), "\x00\x00\x00\x01a\x01\x01x\x02\x3f\xf0\x00\x00\x00\x00\x00\x00"},
		{with(field("x", number64(math.Copysign(0, -1)))), "\x00\x00\x00\x01a\x01\x01x\x02\x80\x00\x00\x00\x00\x00\x00\x00"},
		{with(field("x", number64(math.NaN()))), "\x00\x00\x00\x01a\x01\x01x\x02\x7f\xf8\x00\x00\x00\x00\x00\x01"},
		{with(field("x", text(""))), "\x00\x00\x00\x01a\x01\x01x\x03\x00"},
		{with(field("x", text(strings.Repeat("\xff'\n\x00", 16)))), "\x00\x00\x00\x01a\x01\x01x\x03\x40" + strings.Repeat("\xff'\n\x00", 16)},
		{with(field("a", text("b")), field("a0", number64(2)), field("a_", whole(0)), field("b", whole(1))),
			"\x00\x00\x00\x01a\x04\x01a\x03\x01b\x02a0\x02\x40\x00\x00\x00\x00\x00\x00\x00\x02a_\x01\x00\x01b\x01\x02"},
		{with(numbered(3)...), "\x00\x00\x00\x01a\x03\x02f0\x01\x00\x02f1\x01\x02\x02f2\x01\x04"},
		{with(numbered(8)...), "\x00\x00\x00\x01a\x08\x02f0\x01\x00\x02f1\x01\x02\x02f2\x01\x04\x02f3\x01\x06\x02f4\x01\x08\x02f5\x01\x0a\x02f6\x01\x0c\x02f7\x01\x0e"},
	}
}

func TestTexts(t *testing.T) {
	for _, c := range texts() {
		if e := Check(c.e); e != api.OK {
			t.Errorf("Check(%v): %v", c.e, e)
		}
		if s, e := Encode(c.e); s != c.text || e != api.OK {
			t.Errorf("Encode(%v): %x, %v, want %x", c.e, s, e, c.text)
		}
		if r, e := Decode(c.text); !like(r, c.e) || e != api.OK {
			t.Errorf("Decode(%x): %v, %v, want %v", c.text, r, e, c.e)
		}
	}
}

// wrong are events that may not be.
func wrong() (l []api.Event) {
	for _, n := range []int{-1, math.MinInt, api.MaxIndex + 1, math.MaxInt} {
		l = append(l, api.Event{Session: n, Kind: "a"}, api.Event{Seq: n, Kind: "a"}, api.Event{Stamp: n, Kind: "a"})
	}
	for _, s := range []string{"", "A", "0", "_a", "a-", "abcdefghijklmnopq"} {
		l = append(l, api.Event{Kind: s}, with(field(s, whole(1))), with(field(s, whole(1)), field("z", whole(1))))
	}
	l = append(l, api.Event{}, with(numbered(9)...), with(field("a", whole(1)), field("a", whole(1))), with(field("b", whole(1)), field("a", whole(1))),
		with(field("a0", whole(1)), field("a", whole(1))), with(field("a", whole(1)), field("c", whole(1)), field("b", whole(1))), with(make([]api.Field, 1)...))
	for _, v := range []api.Value{
		{}, {Kind: -1}, {Kind: 4}, {Kind: math.MaxInt}, {Kind: math.MinInt}, {N: 1}, {F: 1}, {S: "s"},
		{Kind: api.Whole, F: 1}, {Kind: api.Whole, F: math.Copysign(0, -1)}, {Kind: api.Whole, F: math.NaN()}, {Kind: api.Whole, S: "s"},
		{Kind: api.Real, N: 1}, {Kind: api.Real, S: "s"}, {Kind: api.Real, N: -1, F: 2},
		{Kind: api.Text, N: 1}, {Kind: api.Text, F: math.Copysign(0, -1)}, {Kind: api.Text, F: math.NaN(), S: "s"}, {Kind: api.Text, F: 5e-324},
		text(strings.Repeat("s", 65)), text(strings.Repeat("s", 1000)),
	} {
		l = append(l, with(field("a", v)), with(field("a", whole(1)), field("b", v)), with(field("a", v), field("b", whole(1))))
	}
	return l
}

func TestEventsThatMayNotBe(t *testing.T) {
	for _, e := range wrong() {
		if x := Check(e); x != api.ErrArg {
			t.Errorf("Check(%v): %v", e, x)
		}
		if s, x := Encode(e); s != "" || x != api.ErrArg {
			t.Errorf("Encode(%v): %x, %v", e, s, x)
		}
	}
}

func TestTextsOfNone(t *testing.T) {
	const max = "\xff\xff\xff\xff\xff\xff\xff\xff\xff" // 2^64 - 1
	l := []string{
		"\xf8\x01\x00\x00\x01a\x00", "\xfc\x80\x00\x00\x00\x01\x00\x00\x01a\x00", "\x00\xfc\x80\x00\x00\x00\x01\x00\x01a\x00", "\x00\x00\xfc\x80\x00\x00\x00\x01\x01a\x00",
		max + "\x00\x00\x01a\x00", "\x00" + max + "\x00\x01a\x00", "\x00\x00" + max + "\x01a\x00",
		"\xff\x7f\xff\xff\xff\xff\xff\xff\xff\x00\x00\x01a\x00", "\xff\x80\x00\x00\x00\x00\x00\x00\x00\x00\x00\x01a\x00",
		"\x00\x00\x00\x00\x00", "\x00\x00\x00\x01A\x00", "\x00\x00\x00\x11abcdefghijklmnopq\x00", "\x00\x00\x00" + max + "a\x00",
		"\x00\x00\x00\x01a\x09", "\x00\x00\x00\x01a\xf8\xff", "\x00\x00\x00\x01a" + max, "\x00\x00\x00\x01a\xff\x80\x00\x00\x00\x00\x00\x00\x00",
		"\x00\x00\x00\x01a\x01\x00\x01\x00", "\x00\x00\x00\x01a\x01\x01X\x01\x00", "\x00\x00\x00\x01a\x01\x11abcdefghijklmnopq\x01\x00",
		"\x00\x00\x00\x01a\x01\x01x\x00", "\x00\x00\x00\x01a\x01\x01x\x00\x00", "\x00\x00\x00\x01a\x01\x01x\x04\x00", "\x00\x00\x00\x01a\x01\x01x" + max + "\x00", "\x00\x00\x00\x01a\x01\x01x\x04",
		"\x00\x00\x00\x01a\x01\x01x\x02\x7f\xf8\x00\x00\x00\x00\x00\x00", "\x00\x00\x00\x01a\x01\x01x\x02\xff\xf8\x00\x00\x00\x00\x00\x01",
		"\x00\x00\x00\x01a\x01\x01x\x03\x41" + strings.Repeat("s", 65), "\x00\x00\x00\x01a\x01\x01x\x03" + max + "s",
		"\x00\x00\x00\x01a\x02\x01x\x01\x00\x01x\x01\x00", "\x00\x00\x00\x01a\x02\x01y\x01\x00\x01x\x01\x00",
		"\x00\x00\x00\x01a\x09\x02f0\x01\x00\x02f1\x01\x02\x02f2\x01\x04\x02f3\x01\x06\x02f4\x01\x08\x02f5\x01\x0a\x02f6\x01\x0c\x02f7\x01\x0e\x02f8\x01\x10",
	}
	for _, c := range texts() {
		l = append(l, c.text+"\x00", c.text+c.text)
		for n := range len(c.text) {
			l = append(l, c.text[:n])
		}
	}
	for _, s := range l {
		if r, e := Decode(s); !like(r, api.Event{}) || e != api.ErrForm {
			t.Errorf("Decode(%x): %v, %v", s, r, e)
		}
	}
}

func TestNaNsBits(t *testing.T) {
	const want = 0x7ff8000000000001
	for _, b := range []uint64{want, 0x7ff8000000000000, 0xfff8000000000001, 0x7ff0000000000001, math.MaxUint64} {
		s, e := Encode(with(field("x", number64(math.Float64frombits(b)))))
		if e != api.OK || s != "\x00\x00\x00\x01a\x01\x01x\x02\x7f\xf8\x00\x00\x00\x00\x00\x01" {
			t.Errorf("Encode of the bits %x: %x, %v", b, s, e)
		}
		r, e := Decode(s)
		if e != api.OK || math.Float64bits(r.Fields[0].V.F) != want {
			t.Errorf("Decode of the bits %x: %v, %v", b, r, e)
		}
	}
}

// 8.2

func TestGet(t *testing.T) {
	e := with(field("a", whole(1)), field("b", number64(2.5)), field("c", text("s")))
	for name, want := range map[string]api.Value{"a": whole(1), "b": number64(2.5), "c": text("s")} {
		if v, there := Get(e, name); v != want || !there {
			t.Errorf("Get(%s): %v, %v, want %v", name, v, there, want)
		}
	}
	for _, name := range []string{"", "d", "A", "aa", "s"} {
		if v, there := Get(e, name); v != (api.Value{}) || there {
			t.Errorf("Get(%q): %v, %v", name, v, there)
		}
		if v, there := Get(api.Event{}, name); v != (api.Value{}) || there {
			t.Errorf("Get(%q) of an event without fields: %v, %v", name, v, there)
		}
	}
}

func TestGetOfEventsThatMayNotBe(t *testing.T) {
	odd := api.Value{Kind: 9, N: 1, F: 2, S: "s"}
	e := api.Event{Session: -1, Fields: []api.Field{field("z", odd), field("", whole(3)), field("z", whole(1)), field("A", whole(2))}}
	for name, want := range map[string]api.Value{"z": odd, "": whole(3), "A": whole(2)} {
		if v, there := Get(e, name); v != want || !there {
			t.Errorf("Get(%q): %v, %v, want %v", name, v, there, want)
		}
	}
}

// 8.4: what is written is read as it was; what is read is just what is written.

// anyEvent is an event that may be.
func anyEvent(r *rand.Rand) api.Event {
	n := func() int { return r.Intn(api.MaxIndex+1) >> r.Intn(40) }
	e := api.Event{Session: n(), Seq: n(), Stamp: n(), Kind: anyWord(r)}
	for range r.Intn(api.MaxFields + 1) {
		e.Fields = append(e.Fields, field(anyWord(r), anyValue(r)))
	}
	slices.SortFunc(e.Fields, func(a, b api.Field) int { return strings.Compare(a.Name, b.Name) })
	e.Fields = slices.CompactFunc(e.Fields, func(a, b api.Field) bool { return a.Name == b.Name })
	return e
}

// anyWord is a word.
func anyWord(r *rand.Rand) string {
	b := make([]byte, 1+r.Intn(api.MaxWord)>>r.Intn(5))
	for i := range b {
		b[i] = "abcxyz019_"[r.Intn(10)]
	}
	b[0] = "abz"[r.Intn(3)]
	return string(b)
}

// anyValue is a value that may be.
func anyValue(r *rand.Rand) api.Value {
	switch r.Intn(3) {
	case 0:
		return whole(int(r.Uint64()) >> r.Intn(64))
	case 1:
		return number64(math.Float64frombits(r.Uint64() << r.Intn(64)))
	}
	b := make([]byte, r.Intn(api.MaxText+1)>>r.Intn(7))
	r.Read(b)
	return text(string(b))
}

func TestWhatIsWrittenIsReadAsItWas(t *testing.T) {
	r := draws()
	for range 20000 {
		e := anyEvent(r)
		s, x := Encode(e)
		if x != api.OK {
			t.Fatalf("Encode(%v): %v", e, x)
		}
		if again, x := Decode(s); !like(again, e) || x != api.OK {
			t.Fatalf("%v is read as %v, %v", e, again, x)
		}
	}
}

func TestWhatIsReadIsJustWhatIsWritten(t *testing.T) {
	r := draws()
	read := 0
	for range 200000 {
		s, _ := Encode(anyEvent(r))
		b := []byte(s)
		for range 1 + r.Intn(2) {
			b[r.Intn(len(b))] = []byte{byte(r.Intn(256)), byte(r.Intn(9)), byte(r.Intn(10) + 246), byte('a' + r.Intn(26))}[r.Intn(4)]
		}
		e, x := Decode(string(b))
		if x != api.OK {
			if x != api.ErrForm || !like(e, api.Event{}) {
				t.Fatalf("Decode(%x): %v, %v", b, e, x)
			}
			continue
		}
		read++
		if again, x := Encode(e); again != string(b) || x != api.OK {
			t.Fatalf("%x is written again as %x, %v", b, again, x)
		}
	}
	if read < 1000 {
		t.Errorf("only %d texts could be read", read)
	}
}

// R3: what is handed in is not changed, what is answered shares no memory with it.

func TestAnswersAreNewMemory(t *testing.T) {
	b := []byte("\x00\x00\x00\x04kind\x01\x04name\x03\x04text")
	e, x := Decode(unsafe.String(&b[0], len(b)))
	for i := range b {
		b[i] = '!'
	}
	if want := (api.Event{Kind: "kind", Fields: []api.Field{field("name", text("text"))}}); !like(e, want) || x != api.OK {
		t.Errorf("the event became %v, %v", e, x)
	}
	c := []byte("text")
	e.Fields[0].V.S = unsafe.String(&c[0], len(c))
	v, _ := Get(e, "name")
	s, _ := Encode(e)
	c[0] = '!'
	if v != text("text") || s != "\x00\x00\x00\x04kind\x01\x04name\x03\x04text" {
		t.Errorf("the value became %v, the text %q", v, s)
	}
	one, _ := Decode(s)
	two, _ := Decode(s)
	one.Fields[0] = field("other", whole(1))
	if two.Fields[0].Name != "name" {
		t.Errorf("two events share their fields")
	}
}
