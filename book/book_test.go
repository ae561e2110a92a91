package book_test

import (
	"fmt"
	"math"
	"math/rand"
	"slices"
	"strings"
	"testing"

	"auspice/api"
	"auspice/bits"
	"auspice/book"
)

const top = api.MaxIndex

// draws is a row of numbers that is the same at each run.
func draws() *rand.Rand { return rand.New(rand.NewSource(18)) }

// is fails, if an error is not the one that is wanted.
func is(t *testing.T, what string, e, want api.Errno) {
	t.Helper()
	if e != want {
		t.Errorf("%s: error %d, want %d", what, e, want)
	}
}

// match is a match of these picks.
func match(picks ...int) api.Match { return api.Match{Picks: picks} }

// nth is a match that no other number gives.
func nth(n int) api.Match { return match(n, n+1, n+5) }

// row are the matches nth from one number to below another one.
func row(from, below int) []api.Match {
	var l []api.Match
	for n := from; n < below; n++ {
		l = append(l, nth(n))
	}
	return l
}

// same tells whether two rows of matches are the same; a nil list is an empty one.
func same(a, b []api.Match) bool { return fmt.Sprint(a) == fmt.Sprint(b) }

// of is a book to which the matches nth came, as many as are said.
func of(t *testing.T, n int) *book.Book {
	t.Helper()
	b := book.New()
	for _, m := range row(0, n) {
		is(t, "Put", b.Put(m), api.OK)
	}
	return b
}

// has fails, if a book does not keep just these matches, from that number on.
func has(t *testing.T, what string, b *book.Book, base int, want []api.Match) {
	t.Helper()
	if b.Base() != base || b.End() != base+len(want) {
		t.Errorf("%s: Base %d, End %d, want %d, %d", what, b.Base(), b.End(), base, base+len(want))
	}
	reads(t, what, b, base, math.MaxInt, want, base+len(want), api.OK)
}

// reads fails, if Read does not answer that.
func reads(t *testing.T, what string, b *book.Book, from, most int, want []api.Match, next int, e api.Errno) {
	t.Helper()
	if l, n, f := b.Read(from, most); !same(l, want) || n != next || f != e {
		t.Errorf("%s: Read(%d, %d): %v, %d, %d, want %v, %d, %d", what, from, most, l, n, f, want, next, e)
	}
}

// loaded is the book of a text.
func loaded(t *testing.T, s string) *book.Book {
	t.Helper()
	b, e := book.Load(s)
	if b == nil || e != api.OK {
		t.Fatalf("Load of %x: %v, %d", s, b, e)
	}
	return b
}

// num is the bytes of numbers.
func num(l ...uint64) string {
	s := ""
	for _, n := range l {
		s += bits.Num(n)
	}
	return s
}

// 18.1

func TestNew(t *testing.T) {
	b := book.New()
	has(t, "New", b, 0, nil)
	if book.New() == b {
		t.Error("two books are one")
	}
}

// picks is so many numbers, one behind the other.
func picks(from, n int) []int {
	var l []int
	for i := range n {
		l = append(l, from+i)
	}
	return l
}

// may are matches that may be.
func may() []api.Match {
	return []api.Match{
		match(0), match(1), match(top), match(0, 1), match(0, top), match(top-1, top), match(3, 300, 30000), match(247, 248),
		match(picks(0, 16)...), match(picks(9, 15)...), match(picks(top-15, 16)...),
	}
}

// mayNot are matches that may not be.
func mayNot() []api.Match {
	return []api.Match{
		{}, {Picks: []int{}}, match(picks(0, 17)...), match(picks(0, 300)...),
		match(-1), match(math.MinInt), match(top + 1), match(math.MaxInt), match(-1, 0), match(-2, -1), match(math.MinInt, 5), match(5, math.MinInt), match(5, -1), match(5, top+1), match(5, math.MaxInt), match(top, top+1),
		match(1, 1), match(0, 0), match(2, 1), match(1, 0), match(1, 2, 2), match(1, 3, 2), match(1, 2, 0), match(top, top), match(append(picks(0, 15), 14)...), match(append(picks(0, 15), 3)...), match(append(picks(0, 15), top+1)...),
	}
}

func TestPut(t *testing.T) {
	b := book.New()
	var l []api.Match
	for i, m := range may() {
		is(t, fmt.Sprint("Put of ", m), b.Put(m), api.OK)
		l = append(l, m)
		has(t, "Put", b, 0, l)
		for _, m := range mayNot() {
			is(t, fmt.Sprint("Put of ", m), b.Put(m), api.ErrArg)
		}
		has(t, "Put of what may not be", b, 0, l)
		is(t, "the same once more", b.Put(may()[i]), api.OK)
		l = append(l, m)
	}
	has(t, "Put of all, twice each", b, 0, l)
}

func TestPutBeyondWhatIsKept(t *testing.T) {
	b := book.New()
	for n := range 300 {
		has(t, "Put", b, max(n-64, 0), row(max(n-64, 0), n))
		is(t, "Put", b.Put(nth(n)), api.OK)
	}
	is(t, "Put of what may not be, where there is no room", b.Put(match(1, 1)), api.ErrArg)
	has(t, "300", b, 236, row(236, 300))
}

func TestPutAtTheEnd(t *testing.T) {
	// Two matches ahead of the greatest End.
	b := loaded(t, num(top-3, 1, 1, 7))
	has(t, "what is loaded", b, top-3, []api.Match{match(7)})
	is(t, "Put", b.Put(nth(1)), api.OK)
	is(t, "Put of the last one", b.Put(nth(2)), api.OK)
	all := []api.Match{match(7), nth(1), nth(2)}
	has(t, "End is the greatest", b, top-3, all)
	for range 2 {
		is(t, "Put behind the last one", b.Put(nth(3)), api.ErrLong)
		is(t, "Put of what may not be, behind the last one", b.Put(match(-1)), api.ErrArg)
	}
	has(t, "Put behind the last one", b, top-3, all)
	is(t, "Forget of all", b.Forget(top), api.OK)
	has(t, "Forget of all", b, top, nil)
	is(t, "Put behind the last one, with none kept", b.Put(nth(3)), api.ErrLong)
	has(t, "with none kept", b, top, nil)
	// As many as there may be, up to the greatest End.
	b = loaded(t, num(top-65, 64)+strings.Repeat(num(1, 7), 64))
	is(t, "Put of the last one, with 64 kept", b.Put(nth(1)), api.OK)
	has(t, "with 64 kept", b, top-64, append(slices.Repeat([]api.Match{match(7)}, 63), nth(1)))
	is(t, "Put behind the last one, with 64 kept", b.Put(nth(2)), api.ErrLong)
	has(t, "with 64 kept, as ever", b, top-64, append(slices.Repeat([]api.Match{match(7)}, 63), nth(1)))
}

// 18.2

func TestExample(t *testing.T) {
	b := of(t, 3)
	is(t, "Forget", b.Forget(2), api.OK)
	has(t, "Forget", b, 2, row(2, 3))
	reads(t, "the example", b, 2, 9, row(2, 3), 3, api.OK)
	reads(t, "the example", b, 0, 9, nil, 2, api.ErrGone)
}

func TestRead(t *testing.T) {
	b := of(t, 100)
	is(t, "Forget", b.Forget(90), api.OK)
	for from := range 110 {
		for most := range 15 {
			switch {
			case from < 90:
				reads(t, "gone", b, from, most, nil, 90, api.ErrGone)
			case from > 100:
				reads(t, "to come", b, from, most, nil, from, api.OK)
			default:
				end := min(from+most, 100)
				reads(t, "kept", b, from, most, row(from, end), end, api.OK)
			}
		}
	}
	for _, most := range []int{0, 1, 9, 10, 11, 64, 1 << 40, math.MaxInt} {
		reads(t, "as many as there are", b, 90, most, row(90, 90+min(most, 10)), 90+min(most, 10), api.OK)
		for _, from := range []int{100, 101, 200, top, top + 1, math.MaxInt - 1, math.MaxInt} {
			reads(t, "none", b, from, most, nil, from, api.OK)
		}
		for _, from := range []int{-1, math.MinInt} {
			reads(t, "from below 0", b, from, most, nil, 0, api.ErrArg)
		}
	}
	for _, most := range []int{-1, math.MinInt} {
		for _, from := range []int{-1, 0, 89, 90, 99, 100, math.MaxInt, math.MinInt} {
			reads(t, "most below 0", b, from, most, nil, 0, api.ErrArg)
		}
	}
	has(t, "behind all that", b, 90, row(90, 100))
}

func TestReadOfNothing(t *testing.T) {
	b := book.New()
	for _, from := range []int{0, 1, top, math.MaxInt} {
		reads(t, "nothing", b, from, 9, nil, from, api.OK)
	}
	reads(t, "nothing", b, -1, 9, nil, 0, api.ErrArg)
	b = loaded(t, num(7, 0))
	reads(t, "nothing behind 7", b, 6, 9, nil, 7, api.ErrGone)
	reads(t, "nothing behind 7, none wanted", b, 0, 0, nil, 7, api.ErrGone)
	reads(t, "nothing behind 7", b, 7, 9, nil, 7, api.OK)
}

func TestForget(t *testing.T) {
	for below := range 21 {
		b := of(t, 20)
		is(t, "Forget of some", b.Forget(3), api.OK)
		for _, wrong := range []int{-1, math.MinInt, 21, top, math.MaxInt} {
			is(t, "Forget", b.Forget(wrong), api.ErrArg)
		}
		has(t, "Forget of none", b, 3, row(3, 20))
		is(t, "Forget", b.Forget(below), api.OK)
		base := max(below, 3)
		has(t, "Forget", b, base, row(base, 20))
		is(t, "Forget once more", b.Forget(below), api.OK)
		has(t, "Forget once more", b, base, row(base, 20))
		for n := 20; n < 100; n++ {
			is(t, "Put behind Forget", b.Put(nth(n)), api.OK)
			base = max(base, n-63)
			has(t, "Put behind Forget", b, base, row(base, n+1))
		}
	}
	b := book.New()
	is(t, "Forget below 0, of nothing", b.Forget(0), api.OK)
	is(t, "Forget below 1, of nothing", b.Forget(1), api.ErrArg)
	is(t, "Forget below -1, of nothing", b.Forget(-1), api.ErrArg)
	has(t, "Forget of nothing", b, 0, nil)
}

// 18.3

const most = "\xfc\x80\x00\x00\x00\x00" // the bytes of api.MaxIndex

// kept is a book's text, and what is in it.
type kept struct {
	text string
	base int
	row  []api.Match
}

// texts are texts of books.
func texts() []kept {
	l := []kept{
		{"\x00\x00", 0, nil}, {"\x07\x00", 7, nil}, {most + "\x00", top, nil}, {"\xf9\x01\x2c\x00", 300, nil},
		{"\x00\x01\x01\x00", 0, []api.Match{match(0)}},
		{"\x02\x02\x03\x01\x02\x09\x01\x00", 2, []api.Match{match(1, 2, 9), match(0)}},
		{"\xf8\xf8\x01\x02\xf7\xf8\xf8", 248, []api.Match{match(247, 248)}},
		{"\xfc\x7f\xff\xff\xff\xff\x01\x02\x05" + most, top - 1, []api.Match{match(5, top)}},
		{"\x00\x02\x01\x05\x01\x05", 0, []api.Match{match(5), match(5)}}, // one match twice, and one ahead of another, may be
		{"\x00\x02\x01\x05\x01\x04", 0, []api.Match{match(5), match(4)}},
		{"\x00\x01\x10\x00\x01\x02\x03\x04\x05\x06\x07\x08\x09\x0a\x0b\x0c\x0d\x0e\x0f", 0, []api.Match{match(picks(0, 16)...)}},
	}
	for _, base := range []int{0, 9, top - 64} {
		k := kept{num(uint64(base), 64), base, row(3, 67)}
		for _, m := range k.row {
			k.text += num(3, uint64(m.Picks[0]), uint64(m.Picks[1]), uint64(m.Picks[2]))
		}
		l = append(l, k)
	}
	return l
}

func TestTexts(t *testing.T) {
	for _, k := range texts() {
		b := loaded(t, k.text)
		has(t, "Load", b, k.base, k.row)
		if b.Text() != k.text {
			t.Errorf("the text of %v from %d on: %x, want %x", k.row, k.base, b.Text(), k.text)
		}
	}
	if s := book.New().Text(); s != "\x00\x00" {
		t.Errorf("the text of New: %x", s)
	}
	b := of(t, 3)
	if s := b.Text(); s != num(0, 3, 3, 0, 1, 5, 3, 1, 2, 6, 3, 2, 3, 7) {
		t.Errorf("the text of three: %x", s)
	}
	b.Forget(2)
	if s := b.Text(); s != num(2, 1, 3, 2, 3, 7) {
		t.Errorf("the text of the third one: %x", s)
	}
	b.Forget(3)
	if s := b.Text(); s != num(3, 0) {
		t.Errorf("the text of none of three: %x", s)
	}
}

// none fails, if a text is one of a book.
func none(t *testing.T, what, s string) {
	t.Helper()
	if b, e := book.Load(s); b != nil || e != api.ErrForm {
		t.Errorf("Load of %s, %.100x: %x, %d", what, s, b.Text(), e)
	}
}

func TestTextsOfNoBook(t *testing.T) {
	const beyond, all = top + 1, math.MaxUint64
	l := map[string]string{
		"nothing": "", "a Base alone": "\x00", "more behind": "\x00\x00\x00", "a match, but none is said": num(0, 0, 1, 5), "a match is missing": num(0, 1), "one of two": num(0, 2, 1, 5), "two of one": num(0, 1, 1, 5, 1, 6),
		"a Base too great": num(beyond, 0), "a Base of 2^63 - 1": num(1<<63-1, 0), "a Base of 2^63": num(1<<63, 0), "the greatest Base": num(all, 0), "the greatest Base and a match": num(all, 1, 1, 5),
		"an End too great": num(top, 1, 1, 5), "an End too great by two": num(top, 2, 1, 5, 1, 6), "an End too great behind 64": num(top-63, 64) + strings.Repeat(num(1, 5), 64),
		"65 matches": num(0, 65) + strings.Repeat(num(1, 5), 65), "64 of 65 matches": num(0, 65) + strings.Repeat(num(1, 5), 64), "65 matches and none": num(0, 65), "300 matches": num(0, 300) + strings.Repeat(num(1, 5), 300), "2^63 matches": num(0, 1<<63), "very many matches": num(0, all), "very many matches, one there": num(0, all, 1, 5),
		"a long Base": "\xf8\x05\x00", "a long number of matches": "\x00\xf8\x00", "a long number of picks": "\x00\x01\xf8\x01\x05", "a long pick": "\x00\x01\x01\xf8\x05", "a longer pick": "\x00\x01\x01\xf9\x00\xf8",
	}
	for what, m := range map[string]string{
		"no picks": num(0), "16 picks and one more": num(17) + strings.Repeat("\x05", 17), "17 picks that rise": "\x11\x00\x01\x02\x03\x04\x05\x06\x07\x08\x09\x0a\x0b\x0c\x0d\x0e\x0f\x10", "16 of 17 picks": "\x11\x00\x01\x02\x03\x04\x05\x06\x07\x08\x09\x0a\x0b\x0c\x0d\x0e\x0f", "very many picks": num(all), "2^63 picks": num(1<<63, 5),
		"a pick is missing": num(2, 5), "a pick too many": num(1, 5, 6), "picks alike": num(2, 5, 5), "picks of 0": num(2, 0, 0), "picks that fall": num(2, 5, 4), "late picks alike": num(3, 4, 5, 5), "late picks that fall": num(3, 4, 6, 5),
		"a pick too great": num(1, beyond), "a pick of 2^63 - 1": num(1, 1<<63-1), "a pick of 2^63": num(1, 1<<63), "the greatest pick": num(1, all), "a late pick too great": num(2, 5, beyond), "a late pick of 2^63": num(2, 5, 1<<63), "a late pick of 2^63 and 6": num(2, 5, 1<<63+6),
	} {
		l[what] = num(9, 1) + m
		l[what+", ahead of another match"] = num(9, 2) + m + num(1, 7)
		l[what+", behind another match"] = num(9, 2) + num(1, 7) + m
	}
	for what, s := range l {
		none(t, what, s)
	}
	for _, k := range texts() {
		for i := range len(k.text) {
			none(t, "a beginning", k.text[:i])
		}
		for _, more := range []string{"\x00", "\x01", "\xff", k.text} {
			none(t, "a text with more behind", k.text+more)
		}
	}
}

func TestNil(t *testing.T) {
	var b *book.Book
	is(t, "Put to nil", b.Put(match(1)), api.ErrArg)
	is(t, "Put of nothing to nil", b.Put(api.Match{}), api.ErrArg)
	for _, n := range []int{0, 1, -1, top, math.MaxInt, math.MinInt} {
		is(t, "Forget of nil", b.Forget(n), api.ErrArg)
		reads(t, "nil", b, n, 9, nil, 0, api.ErrArg)
		reads(t, "nil", b, 0, n, nil, 0, api.ErrArg)
	}
	if b.Base() != 0 || b.End() != 0 {
		t.Errorf("nil: Base %d, End %d", b.Base(), b.End())
	}
	if s := b.Text(); s != "\x00\x00" {
		t.Errorf("the text of nil: %x", s)
	}
}

// changed is a text with some bytes changed, taken out or put in.
func changed(r *rand.Rand, s string) string {
	b := []byte(s)
	for range 1 + r.Intn(3) {
		i := r.Intn(len(b) + 1)
		switch r.Intn(3) {
		case 0:
			b = slices.Insert(b, i, byte(r.Intn(256)))
		case 1:
			b = slices.Delete(b, i, min(i+1, len(b)))
		case 2:
			if i < len(b) {
				b[i] += byte(r.Intn(3)) - 1
			}
		}
	}
	return string(b)
}

// mayBe tells by the words of the chapter whether a match may be.
func mayBe(m api.Match) bool {
	can := len(m.Picks) >= 1 && len(m.Picks) <= 16
	for i, p := range m.Picks {
		can = can && p >= 0 && p <= 1<<39 && (i == 0 || p > m.Picks[i-1])
	}
	return can
}

// anyMatch is a random match; most of them may be.
func anyMatch(r *rand.Rand) api.Match {
	var m api.Match
	for p := r.Intn(300); len(m.Picks) == 0 || r.Intn(5) > 0; p += 1 + r.Intn(400) - r.Intn(2)*r.Intn(2) {
		m.Picks = append(m.Picks, p)
	}
	switch r.Intn(40) {
	case 0:
		m.Picks[len(m.Picks)-1] = []int{-1, top + 1, math.MaxInt, math.MinInt, top}[r.Intn(5)]
	case 1:
		m.Picks = nil
	}
	return m
}

func TestAnyBytes(t *testing.T) {
	r := draws()
	read := 0
	for range 50000 {
		b := book.New()
		for range r.Intn(4) {
			b.Put(anyMatch(r))
		}
		b.Forget(r.Intn(b.End() + 1))
		s := changed(r, b.Text())
		b, e := book.Load(s)
		if e != api.OK {
			none(t, "changed bytes", s)
			continue
		}
		read++
		l, next, e := b.Read(b.Base(), math.MaxInt)
		if e != api.OK || next != b.End() || next > top || len(l) != next-b.Base() || len(l) > 64 || b.Text() != s {
			t.Fatalf("Load of %x: %v from %d on, %d, %d, written as %x", s, l, b.Base(), next, e, b.Text())
		}
		for _, m := range l {
			if !mayBe(m) {
				t.Fatalf("Load of %x: %v", s, l)
			}
		}
	}
	if read < 5000 {
		t.Errorf("only %d texts were read", read)
	}
}

// R3

func TestNothingIsShared(t *testing.T) {
	b := book.New()
	m := match(1, 2, 3)
	b.Put(m)
	b.Put(match(4, 5, 6))
	m.Picks[0] = 0
	want := []api.Match{match(1, 2, 3), match(4, 5, 6)}
	has(t, "as what was put is changed", b, 0, want)
	l, _, _ := b.Read(0, 9)
	other, _, _ := b.Read(0, 9)
	for i := range l {
		for j := range l[i].Picks[:cap(l[i].Picks)] {
			l[i].Picks[:cap(l[i].Picks)][j] = 7777
		}
		l[i] = api.Match{}
		if i == 0 && !same(l[1:], want[1:]) {
			t.Errorf("as a match was changed, the others became %v", l[1:])
		}
	}
	_ = append(l[:0], nth(8), nth(9))
	has(t, "as an answer is changed", b, 0, want)
	b.Forget(1)
	b.Put(nth(10))
	if !same(other, want) {
		t.Errorf("as the book went on, an answer became %v", other)
	}
}

// 18.4

// reader reads on from where it stopped, and notes what it got, and what it was told is gone.
type reader struct {
	next int
	got  map[int]string
	gone map[int]bool
}

// readOn lets a reader read on, and holds what it is told against all that came.
func (v *reader) readOn(t *testing.T, b *book.Book, most int, all []string) {
	t.Helper()
	l, next, e := b.Read(v.next, most)
	if e == api.ErrGone {
		if len(l) > 0 || next <= v.next || next != b.Base() {
			t.Fatalf("Read(%d, %d), of a book from %d to %d: %v, %d, %d", v.next, most, b.Base(), b.End(), l, next, e)
		}
		for n := v.next; n < next; n++ {
			v.gone[n] = true
		}
		v.next = next
		return
	}
	if e != api.OK || next != v.next+len(l) || len(l) > most || len(l) < most && next != b.End() {
		t.Fatalf("Read(%d, %d), of a book from %d to %d: %v, %d, %d", v.next, most, b.Base(), b.End(), l, next, e)
	}
	for i, m := range l {
		if s := fmt.Sprint(m); s != all[v.next+i] {
			t.Fatalf("the match %d: %s, want %s", v.next+i, s, all[v.next+i])
		}
		v.got[v.next+i] = fmt.Sprint(m)
	}
	v.next = next
}

func TestReadersReadEachMatchOnce(t *testing.T) {
	r := draws()
	got, gone, cut := 0, 0, 0
	for range 200 {
		b := book.New()
		var all []string
		var readers []*reader
		for range 3 {
			readers = append(readers, &reader{got: map[int]string{}, gone: map[int]bool{}})
		}
		often, few := 1+r.Intn(20), 1+r.Intn(20)
		for range 400 {
			switch k := r.Intn(41); {
			case k < often:
				v := readers[r.Intn(3)]
				v.readOn(t, b, r.Intn(few), all)
			case k < 40:
				m := anyMatch(r)
				if e := b.Put(m); mayBe(m) != (e == api.OK) || e != api.OK && e != api.ErrArg {
					t.Fatalf("Put of %v: %d", m, e)
				} else if e == api.OK {
					all = append(all, fmt.Sprint(m))
				}
			default:
				below := b.Base() + r.Intn(min(5, b.End()-b.Base()+1))
				cut += below - b.Base()
				is(t, "Forget", b.Forget(below), api.OK)
			}
			if r.Intn(20) == 0 { // who is written and loaded goes on as who was not
				b = loaded(t, b.Text())
			}
			if b.End() != len(all) || b.End()-b.Base() > 64 {
				t.Fatalf("behind %d matches: Base %d, End %d", len(all), b.Base(), b.End())
			}
		}
		for _, v := range readers {
			for v.next < b.End() {
				v.readOn(t, b, 1+r.Intn(few), all)
			}
			for n, s := range all {
				if v.gone[n] == (v.got[n] == s) {
					t.Fatalf("the match %d: got %v, gone %v", n, v.got[n], v.gone[n])
				}
			}
			got += len(v.got)
			gone += len(v.gone)
		}
	}
	if got < 10000 || gone < 10000 || cut < 1000 {
		t.Errorf("only %d were read, %d gone, %d cut", got, gone, cut)
	}
}
