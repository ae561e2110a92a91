package bits

import (
	"math"
	"strings"

	"auspice/api"
)

// Tape is bytes that are read from the front on.
type Tape struct {
	rest string
	err  api.Errno
}

// At is a tape at the front of bytes.
func At(s string) *Tape {
	return &Tape{rest: strings.Clone(s)}
}

// Num reads a number.
func (t *Tape) Num() uint64 {
	return take(t, number)
}

// Int reads a whole number.
func (t *Tape) Int() int {
	return take(t, whole)
}

// Real reads a real number.
func (t *Tape) Real() float64 {
	return take(t, float)
}

// Text reads a text of at most so many bytes.
func (t *Tape) Text(most int) string {
	return take(t, func(s string) (string, int, api.Errno) { return text(s, most) })
}

// Flag reads a flag.
func (t *Tape) Flag() bool {
	return take(t, flag)
}

// Rest is what stands behind the place.
func (t *Tape) Rest() string {
	if t == nil {
		return ""
	}
	return strings.Clone(t.rest)
}

// Err is the error.
func (t *Tape) Err() api.Errno {
	if t == nil {
		return api.ErrArg
	}
	return t.err
}

// End tells whether all was read.
func (t *Tape) End() api.Errno {
	if e := t.Err(); e != api.OK {
		return e
	}
	if t.rest != "" {
		return api.ErrForm
	}
	return api.OK
}

// take reads what stands at the tape's place and goes behind it, or notes the error and stays. How tells what stands at the front of bytes, and how many bytes it has.
func take[T any](t *Tape, how func(s string) (T, int, api.Errno)) T {
	var none T
	if t.Err() != api.OK {
		return none
	}
	v, size, e := how(t.rest)
	if e != api.OK {
		t.err = e
		return none
	}
	t.rest = t.rest[size:]
	return v
}

// number is the number at the front of s.
func number(s string) (uint64, int, api.Errno) {
	if s == "" {
		return 0, 0, api.ErrShort
	}
	if s[0] <= single {
		return uint64(s[0]), 1, api.OK
	}
	size := 1 + int(s[0]) - single
	if len(s) < size {
		return 0, 0, api.ErrShort
	}
	n := join(s[1:size])
	if n < least(size-1) {
		return 0, 0, api.ErrForm
	}
	return n, size, api.OK
}

// whole is the whole number at the front of s.
func whole(s string) (int, int, api.Errno) {
	n, size, e := number(s)
	return unfold(n), size, e
}

// float is the real number at the front of s.
func float(s string) (float64, int, api.Errno) {
	if len(s) < wide {
		return 0, 0, api.ErrShort
	}
	b := join(s[:wide])
	f := math.Float64frombits(b)
	if code(f) != b {
		return 0, 0, api.ErrForm
	}
	return f, wide, api.OK
}

// text is the text of at most so many bytes at the front of s.
func text(s string, most int) (string, int, api.Errno) {
	n, size, e := number(s)
	if e != api.OK {
		return "", 0, e
	}
	if n > uint64(max(most, 0)) {
		return "", 0, api.ErrLong
	}
	if n > uint64(len(s)-size) {
		return "", 0, api.ErrShort
	}
	end := size + int(n)
	return strings.Clone(s[size:end]), end, api.OK
}

// flag is the flag at the front of s.
func flag(s string) (bool, int, api.Errno) {
	if s == "" {
		return false, 0, api.ErrShort
	}
	if s[0] > 1 {
		return false, 0, api.ErrForm
	}
	return s[0] == 1, 1, api.OK
}

// join is the number whose bytes s has, the highest first.
func join(s string) uint64 {
	var n uint64
	for i := range len(s) {
		n = n<<8 | uint64(s[i])
	}
	return n
}

// least is the least number that needs k bytes behind the first one: what is below it has fewer.
func least(k int) uint64 {
	return max(single+1, uint64(1)<<(8*(k-1)))
}
