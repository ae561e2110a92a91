package seglog

import (
	"fmt"
	"math"
	"slices"
	"strings"
	"testing"
	"unsafe"

	"auspice/api"
	"auspice/crc"
	"auspice/disk"
)

// big is a text whose pack has so many bytes.
func big(size int) string { return strings.Repeat("x", size-7) }

// ok fails, if there is an error.
func ok(t *testing.T, e api.Errno) {
	t.Helper()
	if e != api.OK {
		t.Fatalf("error %d", e)
	}
}

// is fails, if an error is not the one that is wanted.
func is(t *testing.T, what string, e, want api.Errno) {
	t.Helper()
	if e != want {
		t.Errorf("%s: error %d, want %d", what, e, want)
	}
}

// open is the log that a disk says.
func open(t *testing.T, d *disk.Disk) *Log {
	t.Helper()
	l, e := Open(d)
	ok(t, e)
	return l
}

// packed is the packs of texts, one behind the other.
func packed(texts ...string) (s string) {
	for _, text := range texts {
		p, _ := crc.Pack(text)
		s += p
	}
	return s
}

// laid is a disk with some files, all of which is sure; of each two texts one is a name, one the bytes.
func laid(t *testing.T, files ...string) *disk.Disk {
	t.Helper()
	d := disk.New()
	for i := 0; i < len(files); i += 2 {
		ok(t, d.Put(files[i], 0, files[i+1]))
	}
	ok(t, d.Sync())
	return d
}

// files fails, if a disk's files are not those that are wanted, told as laid takes them.
func files(t *testing.T, d *disk.Disk, want ...string) {
	t.Helper()
	if l := onto(d); !slices.Equal(l, want) {
		t.Errorf("files: %.200q, want %.200q", l, want)
	}
}

// onto is a disk's files as laid takes them.
func onto(d *disk.Disk) (l []string) {
	for _, file := range d.Names() {
		s, _ := d.Read(file)
		l = append(l, file, s)
	}
	return l
}

// has fails, if a log has not the texts that are wanted, from an index on.
func has(t *testing.T, l *Log, first int, texts ...string) {
	t.Helper()
	if l.First() != first || l.Next() != first+len(texts) {
		t.Errorf("from %d up to %d, want from %d up to %d", l.First(), l.Next(), first, first+len(texts))
	}
	for i, text := range texts {
		if s, there := l.Get(first + i); s != text || !there {
			t.Errorf("Get(%d): %.40q, %v, want %.40q", first+i, s, there, text)
		}
	}
	for _, i := range []int{first - 1, first + len(texts), first + len(texts) + 1, 0, -1, math.MinInt, math.MaxInt} {
		if i >= first && i < first+len(texts) {
			continue
		}
		if s, there := l.Get(i); s != "" || there {
			t.Errorf("Get(%d), of none: %.40q, %v", i, s, there)
		}
	}
}

// same fails, if a log is not the one that its disk says when it is opened anew, or something is not sure.
func same(t *testing.T, d *disk.Disk, l *Log) {
	t.Helper()
	if d.Waits() != 0 {
		t.Errorf("%d changes are not sure", d.Waits())
	}
	calls := d.Calls()
	has(t, open(t, d), l.First(), texts(l)...)
	if d.Calls() != calls {
		t.Errorf("Open had something to do")
	}
}

// texts are all texts of a log.
func texts(l *Log) (all []string) {
	for i := l.First(); i < l.Next(); i++ {
		s, _ := l.Get(i)
		all = append(all, s)
	}
	return all
}

// numbered are texts that tell their numbers.
func numbered(from, to int) (l []string) {
	for i := from; i < to; i++ {
		l = append(l, fmt.Sprint("text ", i))
	}
	return l
}

func TestExample(t *testing.T) {
	d := disk.New()
	l := open(t, d)
	has(t, l, 1)
	ok(t, l.Append(1, []string{"a", "b"}))
	ok(t, l.Append(2, []string{"c"}))
	has(t, l, 1, "a", "c")
	ok(t, l.Reset(9))
	has(t, l, 9)
	same(t, d, l)
}

// 6.2

func TestGetOfManyPieces(t *testing.T) {
	d := disk.New()
	l := open(t, d)
	all := append(numbered(0, 300), "", "\x00\xff", big(700), "z")
	for i, text := range all {
		ok(t, l.Append(i+1, []string{text}))
	}
	has(t, l, 1, all...)
	same(t, d, l)
	if n := len(d.Names()); n < 5 {
		t.Errorf("%d pieces", n)
	}
	if Wide != 512 {
		t.Errorf("Wide: %d", Wide)
	}
}

func TestNil(t *testing.T) {
	var l *Log
	if l.First() != 0 || l.Next() != 0 {
		t.Errorf("First, Next: %d, %d", l.First(), l.Next())
	}
	for _, i := range []int{-1, 0, 1, math.MinInt, math.MaxInt} {
		if s, there := l.Get(i); s != "" || there {
			t.Errorf("Get(%d): %q, %v", i, s, there)
		}
		is(t, "Append", l.Append(i, nil), api.ErrArg)
		is(t, "Append", l.Append(i, []string{"a"}), api.ErrArg)
		is(t, "Drop", l.Drop(i), api.ErrArg)
		is(t, "Reset", l.Reset(i), api.ErrArg)
	}
}

// 6.3

func TestAppendErrors(t *testing.T) {
	d := disk.New()
	l := open(t, d)
	ok(t, l.Reset(5))
	ok(t, l.Append(5, []string{"a", "b"}))
	long, calls := strings.Repeat("x", api.MaxEntry+1), d.Calls()
	for _, at := range []int{4, 8, 1, 0, -1, math.MinInt, math.MaxInt, api.MaxIndex} {
		for _, texts := range [][]string{nil, {"c"}, {long}} {
			is(t, fmt.Sprint("Append at ", at), l.Append(at, texts), api.ErrArg)
		}
	}
	for _, texts := range [][]string{{long}, {"c", long}, {long, "c"}, {long + long}} {
		is(t, "Append of a long text", l.Append(6, texts), api.ErrLong)
	}
	has(t, l, 5, "a", "b")
	if d.Calls() != calls || d.Waits() != 0 {
		t.Errorf("an error did something")
	}
	ok(t, l.Append(7, []string{long[1:]}))
	has(t, l, 5, "a", "b", long[1:])
	same(t, d, l)
}

func TestAppendAtTheLastIndex(t *testing.T) {
	d := disk.New()
	l := open(t, d)
	ok(t, l.Reset(api.MaxIndex-1))
	is(t, "Append of three", l.Append(api.MaxIndex-1, []string{"a", "b", "c"}), api.ErrLong)
	has(t, l, api.MaxIndex-1)
	ok(t, l.Append(api.MaxIndex-1, []string{"a", "b"}))
	is(t, "Append of one more", l.Append(api.MaxIndex+1, []string{"c"}), api.ErrLong)
	is(t, "Append of two at the last", l.Append(api.MaxIndex, []string{"c", "d"}), api.ErrLong)
	is(t, "Append behind", l.Append(api.MaxIndex+2, nil), api.ErrArg)
	ok(t, l.Append(api.MaxIndex+1, nil))
	has(t, l, api.MaxIndex-1, "a", "b")
	ok(t, l.Append(api.MaxIndex, []string{"B"}))
	has(t, l, api.MaxIndex-1, "a", "B")
	same(t, d, l)
}

func TestAPieceThatIsFull(t *testing.T) {
	d := disk.New()
	l := open(t, d)
	ok(t, l.Append(1, []string{big(511)})) // not full
	ok(t, l.Append(2, []string{big(900)})) // full
	ok(t, l.Append(3, []string{big(512)})) // full at once
	ok(t, l.Append(4, []string{"a"}))
	files(t, d, "w.000000000001", packed(big(511), big(900)), "w.000000000003", packed(big(512)), "w.000000000004", packed("a"))
	same(t, d, l)
	ok(t, l.Append(2, []string{"b", "c"})) // what is left of the first one is not full
	files(t, d, "w.000000000001", packed(big(511), "b"), "w.000000000003", packed("c"))
	ok(t, l.Append(3, []string{"d"}))
	files(t, d, "w.000000000001", packed(big(511), "b"), "w.000000000003", packed("d"))
	has(t, l, 1, big(511), "b", "d")
	same(t, d, l)
}

func TestAppendAnywhere(t *testing.T) {
	for at := 1; at <= 31; at++ {
		for _, more := range [][]string{nil, {"a"}, numbered(100, 130)} {
			d := disk.New()
			l := open(t, d)
			old := make([]string, 30)
			for i := range old {
				old[i] = big(100 + i)
			}
			ok(t, l.Append(1, old))
			calls := d.Calls()
			ok(t, l.Append(at, more))
			has(t, l, 1, slices.Concat(old[:at-1], more)...)
			same(t, d, l)
			if at == 31 && more == nil && d.Calls() != calls {
				t.Errorf("nothing to do, and something was done")
			}
		}
	}
}

func TestAppendWhereAPieceBegins(t *testing.T) {
	d := laid(t, "w.000000000003", packed("a", "b"), "w.000000000005", packed("c"), "w.000000000006", packed("d"))
	l := open(t, d)
	ok(t, l.Append(5, []string{"C"}))
	files(t, d, "w.000000000003", packed("a", "b", "C"))
	ok(t, l.Append(3, nil))
	files(t, d, "w.000000000003", "")
	has(t, l, 3)
	ok(t, l.Append(3, []string{"A"}))
	files(t, d, "w.000000000003", packed("A"))
	same(t, d, l)
}

// 6.4

func TestDrop(t *testing.T) {
	old := numbered(0, 100)
	for below := -1; below <= 110; below++ {
		d := disk.New()
		l := open(t, d)
		ok(t, l.Reset(3))
		ok(t, l.Append(3, old))
		before := d.Names()
		calls := d.Calls()
		ok(t, l.Drop(below))
		after := d.Names()
		gone := len(before) - len(after)
		if !slices.Equal(after, before[gone:]) {
			t.Fatalf("Drop(%d): %q, of %q", below, after, before)
		}
		// The piece that stays at the front must have a text that is not below, or be the last one.
		if l.First() > max(3, below) || gone > 0 && d.Calls() != calls+gone+1 || gone == 0 && d.Calls() != calls {
			t.Errorf("Drop(%d): First %d, %d gone, %d calls", below, l.First(), gone, d.Calls()-calls)
		}
		if second, there := 0, len(after) > 1; there {
			second, _ = index(after[1])
			if second <= below {
				t.Errorf("Drop(%d): the piece %s stays, and the next one begins at %d", below, after[0], second)
			}
		}
		has(t, l, l.First(), old[l.First()-3:]...)
		same(t, d, l)
	}
}

func TestDropAtTheEdges(t *testing.T) {
	made := func() (*disk.Disk, *Log) {
		d := laid(t, "w.000000000001", packed("a", "b"), "w.000000000003", packed("c"), "w.000000000004", packed("d", "e"))
		return d, open(t, d)
	}
	for below, first := range map[int]int{math.MinInt: 1, 0: 1, 1: 1, 2: 1, 3: 3, 4: 4, 5: 4, 6: 4, 7: 4, math.MaxInt: 4} {
		d, l := made()
		ok(t, l.Drop(below))
		has(t, l, first, []string{"a", "b", "c", "d", "e"}[first-1:]...)
		same(t, d, l)
		is(t, "Append ahead of the first", l.Append(first-1, nil), api.ErrArg)
		ok(t, l.Append(6, []string{"f"}))
		ok(t, l.Append(first, []string{"z"}))
		has(t, l, first, "z")
		same(t, d, l)
	}
}

func TestReset(t *testing.T) {
	for _, next := range []int{1, 2, 3, 50, 102, 103, 104, api.MaxIndex - 1, api.MaxIndex} {
		for _, n := range []int{0, 1, 100} {
			d := disk.New()
			l := open(t, d)
			ok(t, l.Reset(3))
			ok(t, l.Append(3, numbered(0, n)))
			ok(t, l.Reset(next))
			has(t, l, next)
			files(t, d, fmt.Sprintf("w.%012d", next), "")
			same(t, d, l)
			ok(t, l.Append(next, []string{"a"}))
			has(t, l, next, "a")
			same(t, d, l)
		}
	}
	d := disk.New()
	l := open(t, d)
	ok(t, l.Append(1, []string{"a"}))
	calls := d.Calls()
	for _, next := range []int{0, -1, math.MinInt, api.MaxIndex + 1, math.MaxInt} {
		is(t, fmt.Sprint("Reset to ", next), l.Reset(next), api.ErrArg)
	}
	has(t, l, 1, "a")
	if d.Calls() != calls {
		t.Errorf("an error did something")
	}
}

// R3: what is handed in is not kept and not changed, what is answered shares no memory with what is kept.

func TestMemory(t *testing.T) {
	body := []byte("abc")
	list := []string{unsafe.String(&body[0], 3), "d"}
	d := disk.New()
	l := open(t, d)
	ok(t, l.Append(1, list))
	if !slices.Equal(list, []string{"abc", "d"}) {
		t.Errorf("the list became %q", list)
	}
	body[0], list[1] = '!', "!"
	has(t, l, 1, "abc", "d")
	s, _ := l.Get(1)
	*unsafe.StringData(s) = '?'
	has(t, l, 1, "abc", "d")
	same(t, d, l)
}
