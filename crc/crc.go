// Package crc puts bodies into packs with a sum, and finds them again: see shared/doc/02-crc.md.
package crc

import (
	"strings"

	"auspice/api"
)

const (
	poly = 0x82f63b78 // CRC-32C, the bits turned round
	head = 3          // bytes ahead of a body, which say how many it has
	tail = 4          // bytes of the sum behind it
)

// Sum is the sum of bytes.
func Sum(s string) uint32 {
	sum := ^uint32(0)
	for i := range len(s) {
		sum ^= uint32(s[i])
		for range 8 {
			sum = sum>>1 ^ poly*(sum&1)
		}
	}
	return ^sum
}

// Pack is a body's pack.
func Pack(body string) (string, api.Errno) {
	n := len(body)
	if n > api.MaxBody {
		return "", api.ErrLong
	}
	s := string([]byte{byte(n >> 16), byte(n >> 8), byte(n)}) + body
	return s + foot(s), api.OK
}

// Unpack is the body of the pack at the front, and what stands behind.
func Unpack(s string) (body, rest string, e api.Errno) {
	body, rest, e = cut(s)
	return strings.Clone(body), strings.Clone(rest), e
}

// All are the bodies of the packs from the front on, and what stands behind them.
func All(s string) (bodies []string, rest string) {
	for {
		body, behind, e := cut(s)
		if e != api.OK {
			return bodies, strings.Clone(s)
		}
		bodies = append(bodies, strings.Clone(body))
		s = behind
	}
}

// cut parts s in the body of its first pack and what stands behind. Both are still pieces of s, so that many packs are cut off without copying what is left each time.
func cut(s string) (body, rest string, e api.Errno) {
	if len(s) < head {
		return "", "", api.ErrShort
	}
	n := int(s[0])<<16 | int(s[1])<<8 | int(s[2])
	if n > api.MaxBody {
		return "", "", api.ErrLong
	}
	end := head + n
	if len(s) < end+tail {
		return "", "", api.ErrShort
	}
	if s[end:end+tail] != foot(s[:end]) {
		return "", "", api.ErrSum
	}
	return s[head:end], s[end+tail:], api.OK
}

// foot is the bytes of the sum of s, the lowest first.
func foot(s string) string {
	n := Sum(s)
	return string([]byte{byte(n), byte(n >> 8), byte(n >> 16), byte(n >> 24)})
}
