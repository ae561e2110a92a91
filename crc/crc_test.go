package crc

import (
	stdcrc "hash/crc32"
	"math/rand"
	"slices"
	"strings"
	"testing"
	"unsafe"

	"auspice/api"
)

// draws is a row of numbers that is the same at each run.
func draws() *rand.Rand { return rand.New(rand.NewSource(1)) }

// someBytes are n bytes of any kind.
func someBytes(r *rand.Rand, n int) string {
	b := make([]byte, n)
	r.Read(b)
	return string(b)
}

// pack is the pack of a body that has one.
func pack(t *testing.T, body string) string {
	t.Helper()
	s, e := Pack(body)
	if e != api.OK {
		t.Fatalf("Pack of %d bytes: %v", len(body), e)
	}
	return s
}

// 2.1

func TestSum(t *testing.T) {
	for s, want := range map[string]uint32{
		"":                          0,
		"a":                         0xc1d04330,
		"123456789":                 0xe3069283,
		strings.Repeat("\x00", 32):  0x8a9136aa,
		strings.Repeat("\xff", 32):  0x62a8ab43,
		"\x00\x00\x00":              0x6064a37a,
		"\x00\x00\x02ab":            stdcrc.Checksum([]byte("\x00\x00\x02ab"), stdcrc.MakeTable(stdcrc.Castagnoli)),
		strings.Repeat("ab", 1<<19): stdcrc.Checksum([]byte(strings.Repeat("ab", 1<<19)), stdcrc.MakeTable(stdcrc.Castagnoli)),
	} {
		if g := Sum(s); g != want {
			t.Errorf("Sum of %d bytes: %x, want %x", len(s), g, want)
		}
	}
	r, table := draws(), stdcrc.MakeTable(stdcrc.Castagnoli)
	for n := range 300 {
		s := someBytes(r, n)
		if g, want := Sum(s), stdcrc.Checksum([]byte(s), table); g != want {
			t.Errorf("Sum(%x): %x, want %x", s, g, want)
		}
	}
}

func TestPack(t *testing.T) {
	long := strings.Repeat("x", 0x012345)
	for body, want := range map[string]string{
		"":          "\x00\x00\x00\x7a\xa3\x64\x60",
		"ab":        "\x00\x00\x02ab" + foot("\x00\x00\x02ab"),
		"123456789": "\x00\x00\x09123456789" + foot("\x00\x00\x09123456789"),
		long:        "\x01\x23\x45" + long + foot("\x01\x23\x45"+long),
	} {
		if s, e := Pack(body); s != want || e != api.OK {
			t.Errorf("Pack of %d bytes: %d bytes, %v", len(body), len(s), e)
		}
	}
	if s := foot("123456789"); s != "\x83\x92\x06\xe3" {
		t.Errorf("the sum's bytes: %x", s)
	}
}

func TestPackLong(t *testing.T) {
	most := strings.Repeat("x", api.MaxBody)
	s, e := Pack(most)
	if e != api.OK || len(s) != api.MaxBody+7 || s[:3] != "\x10\x00\x00" {
		t.Errorf("Pack of the longest body: %d bytes, %v", len(s), e)
	}
	if body, rest, e := Unpack(s + "y"); body != most || rest != "y" || e != api.OK {
		t.Errorf("Unpack of the longest body: %d bytes, %q, %v", len(body), rest, e)
	}
	if s, e := Pack(most + "x"); s != "" || e != api.ErrLong {
		t.Errorf("Pack of one byte more: %d bytes, %v", len(s), e)
	}
}

// 2.2

func TestUnpack(t *testing.T) {
	for _, body := range []string{"", "a", "ab", "\x00\x00\x00", strings.Repeat("long", 300)} {
		for _, rest := range []string{"", "c", "\x00\x00\x00", pack(t, "another")} {
			if b, r, e := Unpack(pack(t, body) + rest); b != body || r != rest || e != api.OK {
				t.Errorf("Unpack of %q, %q behind: %q, %q, %v", body, rest, b, r, e)
			}
		}
	}
}

func TestUnpackErrors(t *testing.T) {
	p := pack(t, "ab")
	tooLong := "\x10\x00\x01" + strings.Repeat("x", api.MaxBody+1)
	for _, c := range []struct {
		s    string
		want api.Errno
	}{
		{"", api.ErrShort}, {"\x00", api.ErrShort}, {"\xff\xff", api.ErrShort}, {"\x00\x00\x00", api.ErrShort},
		{"\x00\x00\x00\x7a\xa3\x64", api.ErrShort}, {p[:5], api.ErrShort}, {p[:len(p)-1], api.ErrShort}, {"\x10\x00\x00", api.ErrShort},
		{"\x10\x00\x01", api.ErrLong}, {"\xff\xff\xff", api.ErrLong}, {tooLong + foot(tooLong), api.ErrLong},
		{p[:len(p)-1] + "x", api.ErrSum}, {"\x00\x00\x02aB" + p[5:], api.ErrSum}, {"\x00\x00\x00\x00\x00\x00\x00", api.ErrSum},
		{"\x00\x00\x01" + p[3:], api.ErrSum},
		{"\x00\x00\x02ab" + foot("ab"), api.ErrSum},                              // a sum of the body alone
		{"\x00\x00\x02ab" + string([]byte{p[8], p[7], p[6], p[5]}), api.ErrSum},  // the sum's bytes turned round
		{"\x00\x00\x00\xff\xff\xff\xff" + p, api.ErrSum}, {"x" + p, api.ErrLong}, // no pack at the front, a good one behind
	} {
		if b, r, e := Unpack(c.s); b != "" || r != "" || e != c.want {
			t.Errorf("Unpack(%.20x): %q, %q, %v, want %v", c.s, b, r, e, c.want)
		}
	}
}

func TestAll(t *testing.T) {
	a, b, none := pack(t, "a"), pack(t, "bb"), pack(t, "")
	for _, c := range []struct {
		s      string
		bodies []string
		rest   string
	}{
		{"", nil, ""},
		{"x", nil, "x"},
		{"\xff\xff\xff" + a, nil, "\xff\xff\xff" + a},
		{a, []string{"a"}, ""},
		{none + none, []string{"", ""}, ""},
		{a + b + none + a, []string{"a", "bb", "", "a"}, ""},
		{a + b + a[:4], []string{"a", "bb"}, a[:4]},
		{a + "\x00\x00\x00\x00\x00\x00\x00" + b, []string{"a"}, "\x00\x00\x00\x00\x00\x00\x00" + b},
		{a + "\x10\x00\x01" + b, []string{"a"}, "\x10\x00\x01" + b},
	} {
		if bodies, rest := All(c.s); !slices.Equal(bodies, c.bodies) || rest != c.rest {
			t.Errorf("All(%x): %q, %x, want %q, %x", c.s, bodies, rest, c.bodies, c.rest)
		}
	}
}

// 2.3

func TestAllBodiesAreFoundAndThoseCutOffAreNot(t *testing.T) {
	r := draws()
	for range 20 {
		var bodies []string
		var ends []int
		s := ""
		for range r.Intn(6) {
			bodies = append(bodies, someBytes(r, r.Intn(20)))
			s += pack(t, bodies[len(bodies)-1])
			ends = append(ends, len(s))
		}
		for n := range len(s) + 1 {
			whole := 0
			for whole < len(ends) && ends[whole] <= n {
				whole++
			}
			left := s[:n]
			if whole > 0 {
				left = s[ends[whole-1]:n]
			}
			if got, rest := All(s[:n]); !slices.Equal(got, bodies[:whole]) || rest != left {
				t.Fatalf("All of %x, cut at %d: %q, %x", s, n, got, rest)
			}
		}
	}
}

func TestManyPacksAreFound(t *testing.T) {
	const many = 200000
	s := strings.Repeat(pack(t, ""), many)
	if bodies, rest := All(s + "x"); len(bodies) != many || rest != "x" {
		t.Errorf("All of %d packs: %d, %q", many, len(bodies), rest)
	}
}

func TestTurnedBitsAreNotFound(t *testing.T) {
	r := draws()
	for _, n := range []int{0, 1, 2, 5, 40} {
		p := pack(t, someBytes(r, n))
		for from := 24; from < 8*len(p); from++ {
			for wide := 1; wide <= min(32, 8*len(p)-from); wide++ {
				// The first and the last of the bits are turned, those between by chance.
				bits := uint64(r.Uint32())&(1<<wide-1) | 1 | 1<<(wide-1)
				if s := turned(p, from, bits); !notFound(s) {
					t.Fatalf("%x is found, the bits %x from %d on turned: %x", p, bits, from, s)
				}
			}
		}
	}
}

// turned is s with some bits turned, of each byte the lowest first.
func turned(s string, from int, bits uint64) string {
	b := []byte(s)
	for ; bits != 0; bits >>= 1 {
		if bits&1 == 1 {
			b[from/8] ^= 1 << (from % 8)
		}
		from++
	}
	return string(b)
}

// notFound tells whether no pack stands at the front of s, because of its sum.
func notFound(s string) bool {
	bodies, rest := All(s)
	_, _, e := Unpack(s)
	return e == api.ErrSum && len(bodies) == 0 && rest == s
}

// R3: what is answered shares no memory with what was handed in, or with another answer.

func TestAnswersAreNewMemory(t *testing.T) {
	s := pack(t, "some bytes") + pack(t, "others") + "more behind"
	parts := []string{s}
	body, rest, _ := Unpack(s)
	bodies, left := All(s)
	_, whole := All("\xff" + s)
	none := "no pack, more bytes"
	_, same := All(none)
	parts = append(parts, body, rest, left, whole, none, same)
	parts = append(parts, bodies...)
	for i, a := range parts {
		for _, b := range parts[:i] {
			if overlap(a, b) {
				t.Errorf("%q and %q share memory", a, b)
			}
		}
	}
}

// overlap tells whether two texts share bytes of memory.
func overlap(a, b string) bool {
	x, y := uintptr(unsafe.Pointer(unsafe.StringData(a))), uintptr(unsafe.Pointer(unsafe.StringData(b)))
	return x < y+uintptr(len(b)) && y < x+uintptr(len(a))
}
