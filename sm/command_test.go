package sm_test

import (
	"fmt"
	"math"
	"reflect"
	"slices"
	"strings"
	"testing"

	"auspice/api"
	"auspice/bits"
	"auspice/event"
	"auspice/sm"
)

// 19.1

const most = "\xfc\x80\x00\x00\x00\x00" // the bytes of api.MaxIndex

// whole is a whole number as a value.
func whole(n int) api.Value { return api.Value{Kind: api.Whole, N: n} }

// texts are commands, by their texts.
func texts() map[string]api.Cmd {
	fields := []api.Field{{Name: "x", V: whole(-1)}, {Name: "y", V: api.Value{Kind: api.Text, S: "no"}}}
	return map[string]api.Cmd{
		"\x01":                        {Kind: api.CmdOpen},
		"\x02\x02\x01\x05\x01a\x00":   {Kind: api.CmdEvent, E: api.Event{Session: 2, Seq: 1, Stamp: 5, Kind: "a"}},
		"\x02\x01\x01\x00\x03any\x00": {Kind: api.CmdEvent, E: api.Event{Session: 1, Seq: 1, Kind: "any"}},
		"\x02\x07\xf9\x01\x2c\x00\x01a\x02\x01x\x01\x01\x01y\x03\x02no": {Kind: api.CmdEvent, E: api.Event{Session: 7, Seq: 300, Kind: "a", Fields: fields}},
		"\x02" + most + most + most + "\x02b_\x00":                      {Kind: api.CmdEvent, E: api.Event{Session: api.MaxIndex, Seq: api.MaxIndex, Stamp: api.MaxIndex, Kind: "b_"}},
		"\x03\x01":                     {Kind: api.CmdClose, ID: 1},
		"\x03\xf9\x01\x2c":             {Kind: api.CmdClose, ID: 300},
		"\x03" + most:                  {Kind: api.CmdClose, ID: api.MaxIndex},
		"\x04\x01p\x05a ; b":           {Kind: api.CmdAdd, Name: "p", Text: "a ; b"},
		"\x04\x01p\x00":                {Kind: api.CmdAdd, Name: "p"},
		"\x04\x03p_9\x04\x00\xff;\x80": {Kind: api.CmdAdd, Name: "p_9", Text: "\x00\xff;\x80"},
		"\x04\x10abcdefghijklmnop\xf9\x10\x00" + strings.Repeat("a", 4096): {Kind: api.CmdAdd, Name: "abcdefghijklmnop", Text: strings.Repeat("a", 4096)},
		"\x05\x01p":                {Kind: api.CmdDrop, Name: "p"},
		"\x05\x10abcdefghijklmnop": {Kind: api.CmdDrop, Name: "abcdefghijklmnop"},
		"\x06\x01p\x00":            {Kind: api.CmdForget, Name: "p"},
		"\x06\x02p0\xf8\xf8":       {Kind: api.CmdForget, Name: "p0", N: 248},
		"\x06\x06within" + most:    {Kind: api.CmdForget, Name: "within", N: api.MaxIndex},
	}
}

// like tells whether two commands are the same; a nil list is an empty one.
func like(a, b api.Cmd) bool {
	if len(a.E.Fields)+len(b.E.Fields) == 0 {
		a.E.Fields, b.E.Fields = nil, nil
	}
	return reflect.DeepEqual(a, b)
}

func TestTextsOfCommands(t *testing.T) {
	for s, c := range texts() {
		if w, e := sm.Write(c); w != s || e != api.OK {
			t.Errorf("Write of %s: %.100x, %d, want %.100x", short(c), w, e, s)
		}
		if r, e := sm.Read(s); !like(r, c) || e != api.OK {
			t.Errorf("Read of %.100x: %s, %d, want %s", s, short(r), e, short(c))
		}
	}
}

func TestEmptyListsOfFields(t *testing.T) {
	empty := []api.Field{}
	if s, e := sm.Write(api.Cmd{Kind: api.CmdOpen, E: api.Event{Fields: empty}}); s != "\x01" || e != api.OK {
		t.Errorf("Write with an empty list: %x, %d", s, e)
	}
	v := api.Event{Session: 2, Seq: 1, Kind: "a", Fields: empty}
	if s, e := sm.Write(api.Cmd{Kind: api.CmdEvent, E: v}); s != "\x02\x02\x01\x00\x01a\x00" || e != api.OK {
		t.Errorf("Write of an event with an empty list: %x, %d", s, e)
	}
}

func TestTextsOfEventCommands(t *testing.T) {
	nan := math.Float64frombits(0xfff8000000000123)
	for _, f := range []float64{0, math.Copysign(0, -1), 1.5, math.Inf(1), math.Inf(-1), nan} {
		v := api.Event{Session: 3, Seq: 4, Stamp: 5, Kind: "k", Fields: []api.Field{{Name: "f", V: api.Value{Kind: api.Real, F: f}}}}
		want, _ := event.Encode(v)
		s, e := sm.Write(api.Cmd{Kind: api.CmdEvent, E: v})
		if s != "\x02"+want || e != api.OK {
			t.Errorf("Write of an event of %v: %x, %d", f, s, e)
		}
		c, e := sm.Read(s)
		v, _ = event.Decode(want)
		if len(c.E.Fields) != 1 || e != api.OK {
			t.Fatalf("Read of %x: %v, %d", s, c, e)
		}
		if g, w := c.E.Fields[0].V.F, v.Fields[0].V.F; math.Float64bits(g) != math.Float64bits(w) {
			t.Errorf("Read of %x: %x, want %x", s, math.Float64bits(g), math.Float64bits(w))
		}
	}
}

// stray are ways to set what only some commands name, each with the kinds of those that do.
func stray() []struct {
	set func(*api.Cmd)
	of  []int
} {
	const ev, cl, add, drop, forget = api.CmdEvent, api.CmdClose, api.CmdAdd, api.CmdDrop, api.CmdForget
	return []struct {
		set func(*api.Cmd)
		of  []int
	}{
		{func(c *api.Cmd) { c.E.Session = 1 }, []int{ev}},
		{func(c *api.Cmd) { c.E.Seq = 1 }, []int{ev}},
		{func(c *api.Cmd) { c.E.Stamp = 1 }, []int{ev}},
		{func(c *api.Cmd) { c.E.Session = -1 }, nil},
		{func(c *api.Cmd) { c.E.Seq = -1 }, nil},
		{func(c *api.Cmd) { c.E.Stamp = -1 }, nil},
		{func(c *api.Cmd) { c.E.Kind = "a" }, []int{ev}},
		{func(c *api.Cmd) { c.E.Fields = []api.Field{{Name: "x", V: whole(0)}} }, []int{ev}},
		{func(c *api.Cmd) { c.E.Fields = []api.Field{{}} }, nil},
		{func(c *api.Cmd) { c.ID = 1 }, []int{cl}},
		{func(c *api.Cmd) { c.ID = -1 }, nil},
		{func(c *api.Cmd) { c.Name = "p" }, []int{add, drop, forget}},
		{func(c *api.Cmd) { c.Name = " " }, nil},
		{func(c *api.Cmd) { c.Text = "a" }, []int{add}},
		{func(c *api.Cmd) { c.N = 1 }, []int{forget}},
		{func(c *api.Cmd) { c.N = -1 }, nil},
	}
}

func TestWriteAsksForZeros(t *testing.T) {
	for s, c := range texts() {
		for i, v := range stray() {
			d := c
			v.set(&d)
			want := api.ErrArg
			if slices.Contains(v.of, c.Kind) {
				want = api.OK
			}
			if w, e := sm.Write(d); e != want || e != api.OK && w != "" {
				t.Errorf("Write of that of %.60x with the change %d: %.60x, %d, want %d", s, i, w, e, want)
			}
		}
	}
}

// noWords are texts that are no words.
func noWords() []string {
	return []string{"", " ", "P", "1", "_", "p ", " p", "p-", "pP", "p\x00", "p\xff", "ä", "abcdefghijklmnopq", strings.Repeat("a", 300)}
}

// strange are commands that may not be.
func strange() []api.Cmd {
	const beyond = api.MaxIndex + 1
	l := []api.Cmd{{}, {Kind: -1}, {Kind: 7}, {Kind: 8}, {Kind: 247}, {Kind: 300}, {Kind: math.MaxInt}, {Kind: math.MinInt}, {Kind: 1<<32 + 1}, {Kind: api.CmdEvent}, {Kind: api.CmdClose}, {Kind: api.CmdAdd}, {Kind: api.CmdDrop}, {Kind: api.CmdForget}}
	for _, kind := range []int{0, -1, 7} {
		l = append(l, api.Cmd{Kind: kind, ID: 1}, api.Cmd{Kind: kind, Name: "p", Text: "a"}, api.Cmd{Kind: kind, E: api.Event{Session: 1, Seq: 1, Kind: "a"}})
	}
	for _, n := range []int{0, -1, math.MinInt, beyond, math.MaxInt} {
		l = append(l, api.Cmd{Kind: api.CmdClose, ID: n})
		l = append(l, api.Cmd{Kind: api.CmdEvent, E: api.Event{Session: n, Seq: 1, Kind: "a"}})
		l = append(l, api.Cmd{Kind: api.CmdEvent, E: api.Event{Session: 1, Seq: n, Kind: "a"}})
		if n != 0 {
			l = append(l, api.Cmd{Kind: api.CmdForget, Name: "p", N: n})
			l = append(l, api.Cmd{Kind: api.CmdEvent, E: api.Event{Session: 1, Seq: 1, Stamp: n, Kind: "a"}})
		}
	}
	for _, s := range noWords() {
		l = append(l, api.Cmd{Kind: api.CmdAdd, Name: s, Text: "a"}, api.Cmd{Kind: api.CmdDrop, Name: s}, api.Cmd{Kind: api.CmdForget, Name: s})
		l = append(l, api.Cmd{Kind: api.CmdEvent, E: api.Event{Session: 1, Seq: 1, Kind: s}})
		l = append(l, api.Cmd{Kind: api.CmdEvent, E: api.Event{Session: 1, Seq: 1, Kind: "a", Fields: []api.Field{{Name: s, V: whole(0)}}}})
	}
	two := []api.Field{{Name: "y", V: whole(0)}, {Name: "x", V: whole(0)}}
	l = append(l, api.Cmd{Kind: api.CmdEvent, E: api.Event{Session: 1, Seq: 1, Kind: "a", Fields: two}})
	l = append(l, api.Cmd{Kind: api.CmdAdd, Name: "p", Text: strings.Repeat("a", 4097)}, api.Cmd{Kind: api.CmdAdd, Name: "p", Text: strings.Repeat(" ", 1<<17)})
	return l
}

func TestWriteOfWhatMayNotBe(t *testing.T) {
	for _, c := range strange() {
		if s, e := sm.Write(c); s != "" || e != api.ErrArg {
			t.Errorf("Write of %s: %.100x, %d", short(c), s, e)
		}
	}
}

// noCommand fails, if a text is one of a command.
func noCommand(t *testing.T, what, s string) {
	t.Helper()
	if c, e := sm.Read(s); !like(c, api.Cmd{}) || e != api.ErrForm {
		t.Errorf("Read of %s, %.100x: %s, %d", what, s, short(c), e)
	}
}

// laid is a command's text, whether it may be or not; numbers below 0 are laid as they stand in 64 bits.
func laid(c api.Cmd) string {
	s := num(uint64(c.Kind))
	switch c.Kind {
	case api.CmdEvent:
		v := c.E
		s += num(uint64(v.Session), uint64(v.Seq), uint64(v.Stamp)) + bits.Text(v.Kind) + num(uint64(len(v.Fields)))
		for _, f := range v.Fields {
			s += bits.Text(f.Name) + num(uint64(f.V.Kind)) + bits.Int(f.V.N)
		}
	case api.CmdClose:
		s += num(uint64(c.ID))
	case api.CmdAdd:
		s += bits.Text(c.Name) + bits.Text(c.Text)
	case api.CmdDrop:
		s += bits.Text(c.Name)
	case api.CmdForget:
		s += bits.Text(c.Name) + num(uint64(c.N))
	}
	return s
}

func TestReadOfTextsOfWhatMayNotBe(t *testing.T) {
	for _, c := range strange() {
		noCommand(t, "what may not be", laid(c))
	}
}

func TestReadOfNoTexts(t *testing.T) {
	for what, s := range map[string]string{
		"nothing": "", "no kind": "\xff", "a short kind": "\xf8", "a long kind": "\xf8\x01", "a longer kind": "\xf9\x00\x01",
		"a kind of 2^63 and 1": num(1<<63 + 1), "a kind of 2^32 and 1": num(1<<32 + 1), "a kind of 257": num(257), "the greatest kind": num(math.MaxUint64),
		"an ID of 2^63 and 5": "\x03" + num(1<<63+5), "an ID of 2^39 and 5": "\x03" + num(1<<39+5), "a long ID": "\x03\xf8\x05", "N of 2^63": "\x06\x01p" + num(1<<63), "a long N": "\x06\x01p\xf8\x05",
		"a long name's length": "\x05\xf8\x01p", "a long text's length": "\x04\x01p\xf8\x01a", "a very long name": "\x05" + num(math.MaxUint64) + "p", "a very long text": "\x04\x01p" + num(math.MaxUint64) + "a", "a text as long as 2^63": "\x04\x01p" + num(1<<63) + "a",
		"an event as a text": "\x02" + bits.Text("\x02\x01\x05\x01a\x00"), "an event with a long number": "\x02\xf8\x02\x01\x05\x01a\x00",
	} {
		noCommand(t, what, s)
	}
	for s := range texts() {
		for i := range min(len(s), 40) {
			noCommand(t, "a beginning", s[:i])
		}
		noCommand(t, "all but one byte", s[:len(s)-1])
		for _, more := range []string{"\x00", "\x01", "a", "\xff", s} {
			noCommand(t, "a text with more behind", s+more)
		}
	}
}

func TestAnyBytesAsCommands(t *testing.T) {
	r := draws()
	read := 0
	for range 20 {
		for s := range texts() {
			for range 100 {
				s := changed(r, s)
				c, e := sm.Read(s)
				if e != api.OK {
					noCommand(t, "changed bytes", s)
					continue
				}
				read++
				if w, e := sm.Write(c); w != s || e != api.OK {
					t.Fatalf("Read of %.100x: %s, written as %.100x, %d", s, short(c), w, e)
				}
			}
		}
	}
	if read < 2000 {
		t.Errorf("only %d texts were read", read)
	}
}

func TestWriteChangesNothing(t *testing.T) {
	for _, c := range texts() {
		was := fmt.Sprint(c)
		s, _ := sm.Write(c)
		if fmt.Sprint(c) != was {
			t.Errorf("Write of %.200s made %s of it", was, short(c))
		}
		a, _ := sm.Read(s)
		b, _ := sm.Read(s)
		for i := range a.E.Fields {
			a.E.Fields[i] = api.Field{}
		}
		if !like(b, c) {
			t.Errorf("as an answer was changed, another one became %v", b)
		}
	}
}
