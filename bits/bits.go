// Package bits writes numbers, real numbers and texts as bytes, and reads them: see shared/doc/01-bits.md.
package bits

import "math"

const (
	single = 247                // the greatest number that is a byte of its own
	wide   = 8                  // bytes of a number of 64 bits
	nan    = 0x7ff8000000000001 // the bits that stand for all that is no number
)

// Num is a number's bytes.
func Num(n uint64) string {
	if n <= single {
		return string([]byte{byte(n)})
	}
	b := lay(n)
	first := 1
	for b[first] == 0 {
		first++
	}
	b[first-1] = byte(single + len(b) - first)
	return string(b[first-1:])
}

// Int is a whole number's bytes.
func Int(n int) string {
	return Num(fold(n))
}

// Real is a real number's bytes.
func Real(f float64) string {
	b := lay(code(f))
	return string(b[1:])
}

// Text is a text's bytes.
func Text(s string) string {
	return Num(uint64(len(s))) + s
}

// Flag is a flag's byte.
func Flag(b bool) string {
	if b {
		return "\x01"
	}
	return "\x00"
}

// lay lays all bytes of n, the highest first. The place ahead of them is for the byte that tells how many there are.
func lay(n uint64) (b [1 + wide]byte) {
	for i := len(b) - 1; i > 0; i-- {
		b[i] = byte(n)
		n >>= 8
	}
	return b
}

// fold puts the sign of n into the lowest bit, so that numbers near 0 have few bytes on either side of it.
func fold(n int) uint64 {
	return uint64(n)<<1 ^ uint64(n>>63)
}

// unfold is the number that was folded.
func unfold(n uint64) int {
	return int(n>>1) ^ -int(n&1)
}

// code is the bits of f: one NaN is written as another one, so that like numbers have like bytes.
func code(f float64) uint64 {
	if math.IsNaN(f) {
		return nan
	}
	return math.Float64bits(f)
}
