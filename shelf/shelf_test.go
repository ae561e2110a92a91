package shelf

import (
	"math"
	"math/rand"
	"strings"
	"testing"
	"unsafe"

	"auspice/api"
	"auspice/bits"
)

// draws is a row of numbers that is the same at each run.
func draws() *rand.Rand { return rand.New(rand.NewSource(1)) }

// is fails, if an error is not the one that is wanted.
func is(t *testing.T, what string, e, want api.Errno) {
	t.Helper()
	if e != want {
		t.Errorf("%s: error %d, want %d", what, e, want)
	}
}

// votes are some that may be, with their texts.
func votes() map[api.Vote]string {
	return map[api.Vote]string{
		{}:                                 "\x00\x00",
		{Term: 0, For: -1}:                 "\x00\x01",
		{Term: 3, For: 1}:                  "\x03\x02",
		{Term: 247, For: 6}:                "\xf7\x0c",
		{Term: 300, For: -1}:               "\xf9\x01\x2c\x01",
		{Term: api.MaxIndex, For: 5}:       "\xfc\x80\x00\x00\x00\x00\x0a",
		{Term: api.MaxIndex - 1}:           "\xfc\x7f\xff\xff\xff\xff\x00",
		{Term: api.MaxIndex, For: -1}:      "\xfc\x80\x00\x00\x00\x00\x01",
		{Term: 1 << 32, For: api.Eq}:       "\xfc\x01\x00\x00\x00\x00\x02",
		{Term: 248, For: api.MaxNodes - 1}: "\xf8\xf8\x0c",
	}
}

// noVotes are some that may not be.
func noVotes() []api.Vote {
	return []api.Vote{
		{Term: -1}, {Term: math.MinInt}, {Term: api.MaxIndex + 1}, {Term: math.MaxInt},
		{For: -2}, {For: math.MinInt}, {For: api.MaxNodes}, {For: math.MaxInt}, {Term: -1, For: -2},
	}
}

// snaps are some that may be, with their texts.
func snaps() map[api.Snap]string {
	most := strings.Repeat("x\x00\xff", api.MaxSnap)[:api.MaxSnap]
	return map[api.Snap]string{
		{}:                                       "\x00\x00\x00\x00",
		{Index: 1, Term: 2, Mask: 3, Text: "ab"}: "\x01\x02\x03\x02ab",
		{Index: 300, Term: 248, Mask: 127}:       "\xf9\x01\x2c\xf8\xf8\x7f\x00",
		{Index: api.MaxIndex, Term: api.MaxIndex, Mask: 127, Text: "\x00"}: "\xfc\x80\x00\x00\x00\x00\xfc\x80\x00\x00\x00\x00\x7f\x01\x00",
		{Index: 1, Term: 1, Mask: 1, Text: most}:                           "\x01\x01\x01\xfa\x04\x00\x00" + most,
		{Term: 5, Text: strings.Repeat("y", 248)}:                          "\x00\x05\x00\xf8\xf8" + strings.Repeat("y", 248),
	}
}

// noSnaps are some that may not be.
func noSnaps() []api.Snap {
	return []api.Snap{
		{Index: -1}, {Index: math.MinInt}, {Index: api.MaxIndex + 1}, {Index: math.MaxInt},
		{Term: -1}, {Term: math.MinInt}, {Term: api.MaxIndex + 1}, {Term: math.MaxInt},
		{Mask: -1}, {Mask: math.MinInt}, {Mask: 128}, {Mask: math.MaxInt},
		{Text: strings.Repeat("x", api.MaxSnap+1)},
	}
}

// 7.1

func TestVoteText(t *testing.T) {
	for v, want := range votes() {
		if s, e := Vote(v); s != want || e != api.OK {
			t.Errorf("Vote(%v): %x, %v, want %x", v, s, e, want)
		}
		if r, e := ReadVote(want); r != v || e != api.OK {
			t.Errorf("ReadVote(%x): %v, %v, want %v", want, r, e, v)
		}
	}
	for _, v := range noVotes() {
		if s, e := Vote(v); s != "" || e != api.ErrArg {
			t.Errorf("Vote(%v), which may not be: %x, %v", v, s, e)
		}
	}
}

func TestSnapText(t *testing.T) {
	for v, want := range snaps() {
		if s, e := Snap(v); s != want || e != api.OK {
			t.Errorf("Snap(%.80v): %.80x, %v, want %.80x", v, s, e, want)
		}
		if r, e := ReadSnap(want); r != v || e != api.OK {
			t.Errorf("ReadSnap(%.80x): %.80v, %v, want %.80v", want, r, e, v)
		}
	}
	for _, v := range noSnaps() {
		if s, e := Snap(v); s != "" || e != api.ErrArg {
			t.Errorf("Snap(%.80v), which may not be: %.80x, %v", v, s, e)
		}
	}
}

func TestNoVotesText(t *testing.T) {
	texts := []string{
		"", "\x03", "\x03\x02\x00", "\xf8\x03\x02", "\x03\xf8\x02", "\xf9\x01\x2c", "\x03\xf8",
		bits.Num(api.MaxIndex+1) + "\x00", bits.Num(math.MaxInt64) + "\x00", bits.Num(math.MaxInt64+1) + "\x00",
		bits.Num(math.MaxUint64) + "\x00", bits.Num(math.MaxUint64-2) + "\x00",
		"\x00" + bits.Int(-2), "\x00" + bits.Int(api.MaxNodes), "\x00" + bits.Int(math.MaxInt), "\x00" + bits.Int(math.MinInt),
	}
	for _, s := range votes() {
		texts = append(texts, s[1:]+"\xff", s+"\x00", s[:len(s)-1])
	}
	for _, s := range texts {
		if v, e := ReadVote(s); v != (api.Vote{}) || e != api.ErrForm {
			t.Errorf("ReadVote(%x): %v, %v", s, v, e)
		}
	}
}

func TestNoSnapsText(t *testing.T) {
	long := strings.Repeat("x", api.MaxSnap+1)
	texts := []string{"", "\x01", "\x01\x02", "\x01\x02\x03", "\x01\x02\x03\x02a", "\x01\x02\x03\x02abc", "\x01\x02\x03\xf8\x02ab", "\x00\x00\x00" + bits.Text(long)}
	for _, n := range []uint64{api.MaxIndex + 1, math.MaxInt64, math.MaxInt64 + 1, math.MaxUint64} {
		texts = append(texts, bits.Num(n)+"\x00\x00\x00", "\x00"+bits.Num(n)+"\x00\x00", "\x00\x00"+bits.Num(n)+"\x00", "\x00\x00\x00"+bits.Num(n))
	}
	texts = append(texts, "\x00\x00\x80\x00", "\x00\x00\xf7\x00", "\x00\x00\xf8\xf8\x00")
	for _, s := range texts {
		if v, e := ReadSnap(s); v != (api.Snap{}) || e != api.ErrForm {
			t.Errorf("ReadSnap(%.40x): %.80v, %v", s, v, e)
		}
	}
	for v, s := range snaps() {
		if len(s) > 400 {
			continue
		}
		for n := range len(s) {
			if r, e := ReadSnap(s[:n]); r != (api.Snap{}) || e != api.ErrForm {
				t.Errorf("ReadSnap of the first %d bytes of %v: %v, %v", n, v, r, e)
			}
		}
		if r, e := ReadSnap(s + "\x00"); r != (api.Snap{}) || e != api.ErrForm {
			t.Errorf("ReadSnap with a byte behind %v: %v, %v", v, r, e)
		}
	}
}

// anyText is up to ten bytes, most of them such as stand at an edge.
func anyText(r *rand.Rand) string {
	b := make([]byte, r.Intn(11))
	for i := range b {
		switch r.Intn(4) {
		case 0:
			b[i] = byte(246 + r.Intn(10))
		case 1:
			b[i] = byte(r.Intn(256))
		default:
			b[i] = byte(r.Intn(14))
		}
	}
	return string(b)
}

func TestWhatIsReadIsWrittenAgain(t *testing.T) {
	r := draws()
	var votes, snaps int
	for range 200000 {
		s := anyText(r)
		if v, e := ReadVote(s); e == api.OK {
			votes++
			if again, e := Vote(v); again != s || e != api.OK {
				t.Fatalf("the vote of %x is written as %x, %v", s, again, e)
			}
		} else if e != api.ErrForm || v != (api.Vote{}) {
			t.Fatalf("ReadVote(%x): %v, %v", s, v, e)
		}
		if v, e := ReadSnap(s); e == api.OK {
			snaps++
			if again, e := Snap(v); again != s || e != api.OK {
				t.Fatalf("the snapshot of %x is written as %x, %v", s, again, e)
			}
		} else if e != api.ErrForm || v != (api.Snap{}) {
			t.Fatalf("ReadSnap(%x): %v, %v", s, v, e)
		}
	}
	if votes < 1000 || snaps < 1000 {
		t.Errorf("only %d texts of votes and %d of snapshots were tried", votes, snaps)
	}
}

// R3: what is answered shares no memory with what was handed in.

func TestTextsAreNewMemory(t *testing.T) {
	body := []byte("\x01\x02\x03\x04abcd")
	v, e := ReadSnap(unsafe.String(&body[0], len(body)))
	is(t, "ReadSnap", e, api.OK)
	s, e := Snap(api.Snap{Text: unsafe.String(&body[4], 4)})
	is(t, "Snap", e, api.OK)
	body[4] = '!'
	if v.Text != "abcd" || s != "\x00\x00\x00\x04abcd" {
		t.Errorf("what was answered became %q and %q", v.Text, s)
	}
}
