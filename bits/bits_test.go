package bits

import (
	"math"
	"math/rand"
	"strings"
	"testing"
	"unsafe"

	"auspice/api"
)

// draws is a row of numbers that is the same at each run.
func draws() *rand.Rand { return rand.New(rand.NewSource(1)) }

// edges are the numbers at which the count of bytes changes, their neighbours, and some of each length.
func edges() []uint64 {
	l := []uint64{0, 1, 2, 127, 128, 246, 247, 248, 249, 255}
	r := draws()
	for k := 8; k < 64; k += 8 {
		n := uint64(1) << k
		l = append(l, n-1, n, n+1, n<<7, n+r.Uint64()%(n<<8-n))
	}
	return append(l, math.MaxUint64-1, math.MaxUint64, math.MaxInt64, math.MaxInt64+1)
}

// reals are real numbers of every sort, NaNs of several bits among them.
func reals() []float64 {
	l := []float64{0, math.Copysign(0, -1), 1, -1, 0.1, 1 << 53, math.MaxFloat64, -math.MaxFloat64,
		math.SmallestNonzeroFloat64, math.Inf(1), math.Inf(-1), math.NaN()}
	for _, b := range []uint64{0x7ff8000000000000, 0xfff8000000000001, 0x7ff0000000000001, math.MaxUint64} {
		l = append(l, math.Float64frombits(b))
	}
	r := draws()
	for range 200 {
		l = append(l, math.Float64frombits(r.Uint64()))
	}
	return l
}

// 1.1

func TestNumBytes(t *testing.T) {
	for n, want := range map[uint64]string{
		0: "\x00", 5: "\x05", 246: "\xf6", 247: "\xf7",
		248: "\xf8\xf8", 255: "\xf8\xff", 256: "\xf9\x01\x00", 300: "\xf9\x01\x2c",
		1<<16 - 1: "\xf9\xff\xff", 1 << 16: "\xfa\x01\x00\x00", 1<<24 - 1: "\xfa\xff\xff\xff",
		1 << 24: "\xfb\x01\x00\x00\x00", 1 << 32: "\xfc\x01\x00\x00\x00\x00",
		1 << 39: "\xfc\x80\x00\x00\x00\x00", 1 << 40: "\xfd\x01\x00\x00\x00\x00\x00",
		1 << 48: "\xfe\x01\x00\x00\x00\x00\x00\x00", 1<<56 - 1: "\xfe\xff\xff\xff\xff\xff\xff\xff",
		1 << 56: "\xff\x01\x00\x00\x00\x00\x00\x00\x00", 0x0102030405060708: "\xff\x01\x02\x03\x04\x05\x06\x07\x08",
		math.MaxUint64: "\xff\xff\xff\xff\xff\xff\xff\xff\xff",
	} {
		if s := Num(n); s != want {
			t.Errorf("Num(%d): %x, want %x", n, s, want)
		}
	}
}

func TestIntBytes(t *testing.T) {
	for n, want := range map[int]string{
		0: "\x00", -1: "\x01", 1: "\x02", -2: "\x03", 123: "\xf6", -124: "\xf7", 124: "\xf8\xf8", -125: "\xf8\xf9",
		127: "\xf8\xfe", -128: "\xf8\xff", 128: "\xf9\x01\x00", -129: "\xf9\x01\x01",
		math.MaxInt64: "\xff\xff\xff\xff\xff\xff\xff\xff\xfe", math.MinInt64: "\xff\xff\xff\xff\xff\xff\xff\xff\xff",
	} {
		if s := Int(n); s != want {
			t.Errorf("Int(%d): %x, want %x", n, s, want)
		}
	}
}

func TestRealBytes(t *testing.T) {
	for _, c := range []struct {
		f    float64
		want string
	}{
		{0, "\x00\x00\x00\x00\x00\x00\x00\x00"},
		{math.Copysign(0, -1), "\x80\x00\x00\x00\x00\x00\x00\x00"},
		{1, "\x3f\xf0\x00\x00\x00\x00\x00\x00"},
		{math.Inf(1), "\x7f\xf0\x00\x00\x00\x00\x00\x00"},
		{math.Inf(-1), "\xff\xf0\x00\x00\x00\x00\x00\x00"},
		{math.Float64frombits(0x0102030405060708), "\x01\x02\x03\x04\x05\x06\x07\x08"},
		{math.NaN(), "\x7f\xf8\x00\x00\x00\x00\x00\x01"},
		{math.Float64frombits(0x7ff8000000000000), "\x7f\xf8\x00\x00\x00\x00\x00\x01"},
		{math.Float64frombits(0xfff8000000000001), "\x7f\xf8\x00\x00\x00\x00\x00\x01"},
		{math.Float64frombits(0x7ff0000000000001), "\x7f\xf8\x00\x00\x00\x00\x00\x01"},
		{math.Float64frombits(math.MaxUint64), "\x7f\xf8\x00\x00\x00\x00\x00\x01"},
	} {
		if s := Real(c.f); s != c.want {
			t.Errorf("Real of the bits %x: %x, want %x", math.Float64bits(c.f), s, c.want)
		}
	}
}

func TestTextAndFlagBytes(t *testing.T) {
	long, longer := strings.Repeat("x", 247), strings.Repeat("\xff", 300)
	for s, want := range map[string]string{
		"": "\x00", "ab": "\x02ab", "\x00": "\x01\x00", long: "\xf7" + long,
		long + "y": "\xf8\xf8" + long + "y", longer: "\xf9\x01\x2c" + longer,
	} {
		if g := Text(s); g != want {
			t.Errorf("Text(%q): %x, want %x", s, g, want)
		}
	}
	if Flag(false) != "\x00" || Flag(true) != "\x01" {
		t.Errorf("Flag: %x, %x", Flag(false), Flag(true))
	}
}

// 1.4: what is written is read as it was, whatever stands behind.

func TestNumbersAreReadAsTheyWere(t *testing.T) {
	for _, behind := range []string{"", "\x00", "\xff", "\xf8\x00"} {
		for _, n := range edges() {
			r := At(Num(n) + behind)
			if g := r.Num(); g != n || r.Err() != api.OK || r.Rest() != behind {
				t.Errorf("Num(%d) ahead of %x: %d, %v, %x", n, behind, g, r.Err(), r.Rest())
			}
			i := int(n)
			r = At(Int(i) + behind)
			if g := r.Int(); g != i || r.Err() != api.OK || r.Rest() != behind {
				t.Errorf("Int(%d) ahead of %x: %d, %v, %x", i, behind, g, r.Err(), r.Rest())
			}
		}
	}
}

func TestRealsAreReadAsTheyWere(t *testing.T) {
	for _, behind := range []string{"", "\x00", "\xff\xff"} {
		for _, f := range reals() {
			r := At(Real(f) + behind)
			want := math.Float64bits(f)
			if f != f {
				want = 0x7ff8000000000001
			}
			if g := math.Float64bits(r.Real()); g != want || r.Err() != api.OK || r.Rest() != behind {
				t.Errorf("Real of the bits %x: %x, %v, %x", math.Float64bits(f), g, r.Err(), r.Rest())
			}
		}
	}
}

func TestTextsAndFlagsAreReadAsTheyWere(t *testing.T) {
	for _, behind := range []string{"", "\x00", "behind"} {
		for _, n := range []int{0, 1, 2, 246, 247, 248, 255, 256, 70000} {
			s := strings.Repeat("a\xff\x00", n/3+1)[:n]
			r := At(Text(s) + behind)
			if g := r.Text(n); g != s || r.Err() != api.OK || r.Rest() != behind {
				t.Errorf("Text of %d bytes: %d bytes, %v, %x", n, len(g), r.Err(), r.Rest())
			}
		}
		for _, b := range []bool{false, true} {
			r := At(Flag(b) + behind)
			if r.Flag() != b || r.Err() != api.OK || r.Rest() != behind {
				t.Errorf("Flag(%v) ahead of %x: %v, %x", b, behind, r.Err(), r.Rest())
			}
		}
	}
}

func TestOneBehindTheOther(t *testing.T) {
	r := At(Num(300) + Int(-7) + Real(2.5) + Text("ab") + Flag(true) + Text("") + Num(1))
	if r.Num() != 300 || r.Int() != -7 || r.Real() != 2.5 || r.Text(9) != "ab" || !r.Flag() || r.Text(0) != "" || r.Num() != 1 {
		t.Errorf("read as another one: %v, %x behind", r.Err(), r.Rest())
	}
	if r.End() != api.OK {
		t.Errorf("End: %v", r.End())
	}
}

// 1.4: what is read, written again, is the bytes that were read.

func TestWhatIsReadIsWrittenAgain(t *testing.T) {
	r := draws()
	for range 200000 {
		s := anyBytes(r)
		for name, again := range map[string]func(t *Tape) string{
			"Num":  func(t *Tape) string { return Num(t.Num()) },
			"Int":  func(t *Tape) string { return Int(t.Int()) },
			"Real": func(t *Tape) string { return Real(t.Real()) },
			"Text": func(t *Tape) string { return Text(t.Text(1 << 20)) },
			"Flag": func(t *Tape) string { return Flag(t.Flag()) },
		} {
			tape := At(s)
			written := again(tape)
			if tape.Err() == api.OK && written+tape.Rest() != s {
				t.Fatalf("%s of %x: %x is written again, %x behind", name, s, written, tape.Rest())
			}
			if tape.Err() != api.OK && tape.Rest() != s {
				t.Fatalf("%s of %x: went on in spite of %v", name, s, tape.Err())
			}
		}
	}
}

// anyBytes are up to 12 bytes, most of them such as stand at an edge.
func anyBytes(r *rand.Rand) string {
	b := make([]byte, r.Intn(13))
	for i := range b {
		switch r.Intn(3) {
		case 0:
			b[i] = byte(r.Intn(3))
		case 1:
			b[i] = byte(246 + r.Intn(10))
		default:
			b[i] = byte(r.Intn(256))
		}
	}
	return string(b)
}

func TestBytesStandAsTheNumbersDo(t *testing.T) {
	behind := []string{"", "\x00", "\xff\xff\xff\xff\xff\xff\xff\xff\xff"}
	for _, a := range edges() {
		for _, b := range edges() {
			for _, x := range behind {
				for _, y := range behind {
					if a < b && Num(a)+x >= Num(b)+y {
						t.Fatalf("%d and %x do not stand ahead of %d and %x", a, x, b, y)
					}
				}
			}
		}
	}
}

// R3: what is answered shares no memory with what was handed in, what is kept, or another answer.

func TestAnswersAreNewMemory(t *testing.T) {
	s := "\x03abcdefg" + strings.Repeat("h", 9)
	one, two := At(s), At(s)
	parts := []string{s, one.rest, two.rest}
	parts = append(parts, one.Rest(), one.Rest())
	parts = append(parts, one.Text(3), two.Text(3), one.Rest())
	for i, a := range parts {
		for _, b := range parts[:i] {
			if overlap(a, b) {
				t.Errorf("%q and %q share memory", a, b)
			}
		}
	}
}

// overlap tells whether two texts share bytes of memory.
func overlap(a, b string) bool {
	x, y := uintptr(unsafe.Pointer(unsafe.StringData(a))), uintptr(unsafe.Pointer(unsafe.StringData(b)))
	return x < y+uintptr(len(b)) && y < x+uintptr(len(a))
}
