package bits

import (
	"math"
	"strings"
	"testing"

	"auspice/api"
)

// call is a call of a tape: its name, and whether it answers zero.
type call struct {
	name string
	zero func(t *Tape) bool
}

// calls are all that reads a tape.
func calls() []call {
	return []call{
		{"Num", func(t *Tape) bool { return t.Num() == 0 }},
		{"Int", func(t *Tape) bool { return t.Int() == 0 }},
		{"Real", func(t *Tape) bool { return math.Float64bits(t.Real()) == 0 }},
		{"Text", func(t *Tape) bool { return t.Text(100) == "" }},
		{"Flag", func(t *Tape) bool { return !t.Flag() }},
	}
}

// 1.2

func TestReadingErrors(t *testing.T) {
	nans := map[string]api.Errno{}
	for _, b := range []uint64{0x7ff8000000000000, 0x7ff8000000000002, 0xfff8000000000001, 0x7ff0000000000001, math.MaxUint64} {
		laid := lay(b)
		nans[string(laid[1:])] = api.ErrForm
	}
	for name, errors := range map[string]map[string]api.Errno{
		"Num": {
			"": api.ErrShort, "\xf8": api.ErrShort, "\xf9\x01": api.ErrShort, "\xff\x01\x02\x03\x04\x05\x06\x07": api.ErrShort,
			"\xf9\x00": api.ErrShort, // it ends, and could be shorter: that it ends is named first
			"\xf8\x00": api.ErrForm, "\xf8\xf7": api.ErrForm, "\xf9\x00\xff": api.ErrForm, "\xfa\x00\xff\xff": api.ErrForm,
			"\xfb\x00\xff\xff\xff": api.ErrForm, "\xfc\x00\xff\xff\xff\xff": api.ErrForm, "\xfd\x00\xff\xff\xff\xff\xff": api.ErrForm,
			"\xfe\x00\xff\xff\xff\xff\xff\xff": api.ErrForm, "\xff\x00\xff\xff\xff\xff\xff\xff\xff": api.ErrForm,
		},
		"Int":  {"": api.ErrShort, "\xfa\x01\x00": api.ErrShort, "\xf8\xf7": api.ErrForm, "\xf9\x00\xff": api.ErrForm},
		"Real": {"": api.ErrShort, "\x3f\xf0\x00\x00\x00\x00\x00": api.ErrShort},
		"Text": {
			"": api.ErrShort, "\xf8": api.ErrShort, "\xf8\xf7": api.ErrForm, "\x01": api.ErrShort, "\x03ab": api.ErrShort,
			"\x65": api.ErrLong, "\xff\xff\xff\xff\xff\xff\xff\xff\xff": api.ErrLong, "\xff\x80\x00\x00\x00\x00\x00\x00\x00": api.ErrLong,
		},
		"Flag": {"": api.ErrShort, "\x02": api.ErrForm, "\xff": api.ErrForm},
	} {
		if name == "Real" {
			for s, e := range nans {
				errors[s] = e
			}
		}
		for _, c := range calls() {
			for s, want := range errors {
				r := At(s)
				if c.name == name && (!c.zero(r) || r.Err() != want || r.Rest() != s) {
					t.Errorf("%s of %x: error %v, want %v; behind it %x", name, s, r.Err(), want, r.Rest())
				}
			}
		}
	}
}

func TestTextMost(t *testing.T) {
	for _, c := range []struct {
		s    string
		most int
		want string
		e    api.Errno
	}{
		{"\x03abcd", 3, "abc", api.OK},
		{"\x03abcd", 2, "", api.ErrLong},
		{"\x03ab", 2, "", api.ErrLong}, // too long, and it ends: that it is too long is named first
		{"\x03ab", 3, "", api.ErrShort},
		{"\x00a", 0, "", api.OK},
		{"\x00a", -1, "", api.OK},
		{"\x00a", math.MinInt64, "", api.OK},
		{"\x01a", 0, "", api.ErrLong},
		{"\x01a", -1, "", api.ErrLong},
		{"\x01a", math.MinInt64, "", api.ErrLong},
		{"\x01a", math.MaxInt64, "a", api.OK},
		{"\xff\x7f\xff\xff\xff\xff\xff\xff\xffa", math.MaxInt64, "", api.ErrShort},
		{"\xff\x80\x00\x00\x00\x00\x00\x00\x00a", math.MaxInt64, "", api.ErrLong},
		{"\xff\xff\xff\xff\xff\xff\xff\xff\xffa", -1, "", api.ErrLong},
	} {
		r := At(c.s)
		if g := r.Text(c.most); g != c.want || r.Err() != c.e {
			t.Errorf("Text(%d) of %x: %q, %v, want %q, %v", c.most, c.s, g, r.Err(), c.want, c.e)
		}
	}
}

func TestErrorStays(t *testing.T) {
	behind := Num(5) + Int(5) + Real(5) + Text("five") + Flag(true)
	// No flag, but a number, ahead of what could be read well.
	r := At("\x05" + behind)
	r.Flag()
	for _, c := range calls() {
		if !c.zero(r) || r.Err() != api.ErrForm || r.Rest() != "\x05"+behind {
			t.Errorf("%s behind an error: %v, %x", c.name, r.Err(), r.Rest())
		}
	}
	// Short of bytes for a real number: a flag could be read, and would be none.
	r = At("\x02")
	r.Real()
	for _, c := range calls() {
		if !c.zero(r) || r.Err() != api.ErrShort || r.Rest() != "\x02" {
			t.Errorf("%s behind an error: %v, %x", c.name, r.Err(), r.Rest())
		}
	}
}

func TestNewTape(t *testing.T) {
	for _, s := range []string{"", "\x00", "\xff", "some bytes"} {
		r := At(s)
		if r.Rest() != s || r.Err() != api.OK {
			t.Errorf("At(%q): %q, %v", s, r.Rest(), r.Err())
		}
	}
}

// 1.3

func TestRestAndEnd(t *testing.T) {
	r := At("\x01\x02\xf8\x00x")
	for i, want := range []string{"\x02\xf8\x00x", "\xf8\x00x"} {
		if r.Num(); r.Rest() != want || r.Err() != api.OK || r.End() != api.ErrForm {
			t.Errorf("behind %d numbers: %x, %v, %v", i+1, r.Rest(), r.Err(), r.End())
		}
	}
	if r.End(); r.Err() != api.OK {
		t.Errorf("End noted an error: %v", r.Err())
	}
	if r.Num(); r.Rest() != "\xf8\x00x" || r.Err() != api.ErrForm || r.End() != api.ErrForm {
		t.Errorf("behind an error: %x, %v, %v", r.Rest(), r.Err(), r.End())
	}
	r = At("\x01")
	if r.Num() != 1 || r.Rest() != "" || r.End() != api.OK {
		t.Errorf("at the end: %x, %v", r.Rest(), r.End())
	}
	if r.Num() != 0 || r.Err() != api.ErrShort || r.End() != api.ErrShort {
		t.Errorf("behind the end: %v, %v", r.Err(), r.End())
	}
	if r = At("\x09abc"); r.Text(8) != "" || r.End() != api.ErrLong {
		t.Errorf("End tells not the error that was noted, but %v", r.End())
	}
	if e := At("").End(); e != api.OK {
		t.Errorf("End of no bytes: %v", e)
	}
}

func TestNilTape(t *testing.T) {
	var r *Tape
	for _, c := range calls() {
		if !c.zero(r) {
			t.Errorf("%s of a nil tape is not zero", c.name)
		}
	}
	if r.Rest() != "" || r.Err() != api.ErrArg || r.End() != api.ErrArg {
		t.Errorf("a nil tape: %q, %v, %v", r.Rest(), r.Err(), r.End())
	}
}

// R1: no bytes, and no most, let a call panic.

func TestAnyBytesAreAnAnswer(t *testing.T) {
	r := draws()
	for range 20000 {
		tape := At(anyBytes(r) + strings.Repeat("x", r.Intn(3)))
		for range 6 {
			switch r.Intn(5) {
			case 0:
				tape.Num()
			case 1:
				tape.Int()
			case 2:
				tape.Real()
			case 3:
				tape.Text(int(r.Uint64()))
			default:
				tape.Flag()
			}
		}
		tape.End()
	}
}
