package disk

import (
	"math"
	"slices"
	"strings"
	"testing"
	"unsafe"

	"auspice/api"
)

// longest is a name of as many bytes as there may be.
const longest = "abcdefghijklmnopqrstuvwxyz0123456789.-abcdefghijklmnopqrstuvwxyz"

// filled is a disk with some files, all of which is sure; of each two texts one is a name, one the bytes.
func filled(t *testing.T, files ...string) *Disk {
	t.Helper()
	d := New()
	for i := 0; i < len(files); i += 2 {
		ok(t, d.Put(files[i], 0, files[i+1]))
	}
	ok(t, d.Sync())
	return d
}

// ok fails, if there is an error.
func ok(t *testing.T, e api.Errno) {
	t.Helper()
	if e != api.OK {
		t.Fatalf("error %d", e)
	}
}

// is fails, if an error is not the one that is wanted.
func is(t *testing.T, what string, e, want api.Errno) {
	t.Helper()
	if e != want {
		t.Errorf("%s: error %d, want %d", what, e, want)
	}
}

// has fails, if a disk's files are not those that are wanted, told as filled takes them.
func has(t *testing.T, d *Disk, files ...string) {
	t.Helper()
	var names []string
	used := 0
	for i := 0; i < len(files); i += 2 {
		names = append(names, files[i])
		used += len(files[i+1])
		if s, e := d.Read(files[i]); s != files[i+1] || e != api.OK {
			t.Errorf("Read(%s): %q, error %d, want %q", files[i], s, e, files[i+1])
		}
	}
	if l := d.Names(); !slices.Equal(l, names) {
		t.Errorf("Names: %q, want %q", l, names)
	}
	if n := d.Used(); n != used {
		t.Errorf("Used: %d, want %d", n, used)
	}
}

// 5.1

func TestNewHasNoFiles(t *testing.T) {
	d := New()
	has(t, d)
	if d.Waits() != 0 || d.Calls() != 0 || d.Down() {
		t.Errorf("a new disk: %d wait, %d calls, down %v", d.Waits(), d.Calls(), d.Down())
	}
	for _, file := range []string{"a", "b", "c", "d", "e"} { // any room
		ok(t, d.Put(file, 0, strings.Repeat("x", api.MaxFile)))
	}
	if d.Used() != 5*api.MaxFile {
		t.Errorf("Used: %d", d.Used())
	}
	has(t, New())
}

// sees fails, if the calls of a disk do not all answer one error, and nothing beside it.
func sees(t *testing.T, d *Disk, want api.Errno) {
	t.Helper()
	is(t, "Put", d.Put("a", 0, "x"), want)
	is(t, "Put of no name", d.Put("", -1, "x"), want)
	is(t, "Trim", d.Trim("a", 0), want)
	is(t, "Trim of no name", d.Trim("A", -1), want)
	is(t, "Move", d.Move("a", "b"), want)
	is(t, "Move of none", d.Move("q", "/"), want)
	is(t, "Drop", d.Drop("a"), want)
	is(t, "Drop of no name", d.Drop(" "), want)
	is(t, "Sync", d.Sync(), want)
	for _, file := range []string{"a", "q", ""} {
		s, e := d.Read(file)
		is(t, "Read", e, want)
		if s != "" {
			t.Errorf("Read: %q", s)
		}
	}
	if len(d.Names()) != 0 || d.Used() != 0 || d.Waits() != 0 {
		t.Errorf("names %q, %d used, %d wait", d.Names(), d.Used(), d.Waits())
	}
}

func TestNil(t *testing.T) {
	var d *Disk
	sees(t, d, api.ErrArg)
	d.Room(1)
	d.Fail(1)
	d.Trip(1, 1)
	d.Wake()
	if !d.Down() || d.Calls() != 0 {
		t.Errorf("a nil disk: down %v, %d calls", d.Down(), d.Calls())
	}
}

func TestDown(t *testing.T) {
	d := filled(t, "a", "xyz")
	ok(t, d.Put("b", 0, "u"))
	n := d.Calls()
	d.Fail(9)
	if !d.Down() {
		t.Errorf("up behind Fail")
	}
	sees(t, d, api.ErrDown)
	if d.Calls() != n || n != 3 {
		t.Errorf("Calls: %d, want 3", d.Calls())
	}
	d.Wake()
	has(t, d, "a", "xyz", "b", "u")
}

// 5.2

func TestNamesThatMayBe(t *testing.T) {
	d := filled(t, "here", "x")
	for _, file := range []string{"a", "z", "0", "9", ".", "-", "..", "vote.new", "w.000000000001", longest} {
		is(t, "Put of "+file, d.Put(file, 0, "x"), api.OK)
		is(t, "Move of "+file, d.Move(file, "there"), api.OK)
		is(t, "Move to "+file, d.Move("there", file), api.OK)
		is(t, "Trim of "+file, d.Trim(file, 1), api.OK)
		is(t, "Drop of "+file, d.Drop(file), api.OK)
	}
	n := d.Calls()
	for _, file := range []string{"", "A", "Z", "_", "/", "a/b", " ", "a b", "\x00", "a\n", "é", "\xff", "`", "{", ",", ":", longest + "a", strings.Repeat("a", 1000)} {
		is(t, "Put of "+file, d.Put(file, 0, "x"), api.ErrArg)
		is(t, "Trim of "+file, d.Trim(file, 0), api.ErrArg)
		is(t, "Move of "+file, d.Move(file, "there"), api.ErrArg)
		is(t, "Move to "+file, d.Move("here", file), api.ErrArg)
		is(t, "Move of none to "+file, d.Move("none", file), api.ErrArg)
		is(t, "Drop of "+file, d.Drop(file), api.ErrArg)
		_, e := d.Read(file)
		is(t, "Read of "+file, e, api.ErrArg)
	}
	has(t, d, "here", "x")
	if d.Calls() != n {
		t.Errorf("errors were counted")
	}
}

func TestPut(t *testing.T) {
	d := New()
	for _, c := range []struct {
		at   int
		s    string
		e    api.Errno
		want string
	}{
		{1, "x", api.ErrArg, ""}, {-1, "x", api.ErrArg, ""}, {0, "abc", api.OK, "abc"}, {3, "de", api.OK, "abcde"},
		{1, "X", api.OK, "aXcde"}, {4, "YZ", api.OK, "aXcdYZ"}, {0, "", api.OK, "aXcdYZ"}, {6, "", api.OK, "aXcdYZ"},
		{7, "", api.ErrArg, "aXcdYZ"}, {7, "x", api.ErrArg, "aXcdYZ"}, {-1, "", api.ErrArg, "aXcdYZ"},
		{math.MaxInt, "x", api.ErrArg, "aXcdYZ"}, {math.MinInt, "x", api.ErrArg, "aXcdYZ"}, {0, "\x00\xff", api.OK, "\x00\xffcdYZ"},
		{2, "0123456", api.OK, "\x00\xff0123456"},
	} {
		is(t, "Put", d.Put("f", c.at, c.s), c.e)
		if s, _ := d.Read("f"); s != c.want {
			t.Errorf("behind Put(%d, %q): %q, want %q", c.at, c.s, s, c.want)
		}
	}
	ok(t, d.Put("empty", 0, ""))
	has(t, d, "empty", "", "f", "\x00\xff0123456")
}

func TestPutOfTooMany(t *testing.T) {
	d := New()
	most := strings.Repeat("x", api.MaxFile)
	is(t, "Put of too many", d.Put("f", 0, most+"x"), api.ErrArg)
	has(t, d)
	ok(t, d.Put("f", 0, most[1:]))
	is(t, "Put of two more", d.Put("f", api.MaxFile-1, "ab"), api.ErrArg)
	ok(t, d.Put("f", api.MaxFile-1, "a"))
	is(t, "Put of one more", d.Put("f", api.MaxFile, "b"), api.ErrArg)
	is(t, "Put across the end", d.Put("f", api.MaxFile-1, "bb"), api.ErrArg)
	ok(t, d.Put("f", api.MaxFile, ""))
	ok(t, d.Put("f", api.MaxFile-1, "b"))
	has(t, d, "f", most[1:]+"b")
}

func TestTrimMoveDrop(t *testing.T) {
	d := filled(t, "a", "abc", "b", "xy")
	n := d.Calls()
	is(t, "Trim of none", d.Trim("c", 0), api.ErrNone)
	is(t, "Trim of none, below 0", d.Trim("c", -1), api.ErrNone)
	is(t, "Trim below 0", d.Trim("a", -1), api.ErrArg)
	is(t, "Trim beyond", d.Trim("a", 4), api.ErrArg)
	is(t, "Trim far beyond", d.Trim("a", math.MaxInt), api.ErrArg)
	is(t, "Move of none", d.Move("c", "a"), api.ErrNone)
	is(t, "Move of none to its own name", d.Move("c", "c"), api.ErrNone)
	is(t, "Drop of none", d.Drop("c"), api.ErrNone)
	_, e := d.Read("c")
	is(t, "Read of none", e, api.ErrNone)
	has(t, d, "a", "abc", "b", "xy")
	if d.Waits() != 0 || d.Calls() != n {
		t.Errorf("errors changed something: %d wait, %d calls", d.Waits(), d.Calls())
	}
	ok(t, d.Trim("a", 3))
	ok(t, d.Trim("a", 2))
	has(t, d, "a", "ab", "b", "xy")
	ok(t, d.Move("a", "c"))
	has(t, d, "b", "xy", "c", "ab")
	ok(t, d.Move("c", "c"))
	has(t, d, "b", "xy", "c", "ab")
	ok(t, d.Move("c", "b"))
	has(t, d, "b", "ab")
	ok(t, d.Trim("b", 0))
	has(t, d, "b", "")
	ok(t, d.Put("b", 0, "q"))
	has(t, d, "b", "q")
	ok(t, d.Drop("b"))
	has(t, d)
	if d.Waits() != 8 {
		t.Errorf("Waits: %d", d.Waits())
	}
	ok(t, d.Sync())
	has(t, d)
}

func TestSyncEmptiesTheRow(t *testing.T) {
	d := New()
	ok(t, d.Sync())
	ok(t, d.Put("a", 0, "x"))
	ok(t, d.Put("a", 1, "y"))
	if d.Waits() != 2 {
		t.Errorf("Waits: %d", d.Waits())
	}
	ok(t, d.Sync())
	if d.Waits() != 0 || d.Calls() != 4 {
		t.Errorf("behind Sync %d wait, %d calls", d.Waits(), d.Calls())
	}
	has(t, d, "a", "xy")
	d.Fail(0)
	d.Wake()
	has(t, d, "a", "xy")
}

// 5.3

func TestRoom(t *testing.T) {
	d := filled(t, "a", "abcd", "b", "xy")
	n := d.Calls()
	d.Room(8)
	is(t, "Put of three more", d.Put("c", 0, "123"), api.ErrFull)
	is(t, "Put across the end", d.Put("a", 3, "1234"), api.ErrFull)
	is(t, "Put of no name without room", d.Put("C", 0, "123"), api.ErrArg)
	is(t, "Put at no place without room", d.Put("a", 5, "123"), api.ErrArg)
	has(t, d, "a", "abcd", "b", "xy")
	if d.Waits() != 0 || d.Calls() != n {
		t.Errorf("without room: %d wait, %d calls", d.Waits(), d.Calls())
	}
	ok(t, d.Put("a", 3, "123"))
	has(t, d, "a", "abc123", "b", "xy")
	is(t, "Put of one more", d.Put("b", 2, "z"), api.ErrFull)
	ok(t, d.Put("c", 0, ""))
	d.Room(3)
	ok(t, d.Put("b", 0, "zz")) // no more than they have
	ok(t, d.Put("a", 5, ""))
	is(t, "Put beyond a bound that is below", d.Put("b", 1, "zz"), api.ErrFull)
	ok(t, d.Trim("a", 0))
	ok(t, d.Put("a", 0, "1"))
	is(t, "Put of one more", d.Put("a", 1, "2"), api.ErrFull)
	ok(t, d.Move("c", "b"))
	ok(t, d.Put("a", 1, "23"))
	has(t, d, "a", "123", "b", "")
	ok(t, d.Drop("a"))
	ok(t, d.Put("b", 0, "123"))
	d.Room(0)
	is(t, "Put without any room", d.Put("b", 3, "4"), api.ErrFull)
	ok(t, d.Put("new", 0, ""))
	d.Room(-1)
	ok(t, d.Put("b", 3, "4"))
	d.Room(math.MinInt)
	ok(t, d.Put("b", 4, "5"))
	has(t, d, "b", "12345", "new", "")
}

func TestRoomCountsWhatIsNotSure(t *testing.T) {
	d := filled(t, "a", "abcd")
	d.Room(4)
	ok(t, d.Drop("a"))
	ok(t, d.Put("b", 0, "1234"))
	is(t, "Put of one more", d.Put("b", 4, "5"), api.ErrFull)
	d.Fail(0)
	d.Wake()
	has(t, d, "a", "abcd")
	is(t, "Put of one more", d.Put("b", 0, "5"), api.ErrFull)
	d.Fail(0)
	d.Room(5) // of a disk that is down, too
	d.Wake()
	ok(t, d.Put("b", 0, "5"))
	is(t, "Put of one more", d.Put("b", 1, "6"), api.ErrFull)
}

func TestNamesRise(t *testing.T) {
	d := filled(t, "b", "", "a", "", "10", "", "9", "", "-", "", ".", "", "ab", "")
	if l := d.Names(); !slices.Equal(l, []string{"-", ".", "10", "9", "a", "ab", "b"}) {
		t.Errorf("Names: %q", l)
	}
}

func TestCalls(t *testing.T) {
	d := New()
	for i, call := range []func() api.Errno{
		func() api.Errno { return d.Put("a", 0, "") }, d.Sync, func() api.Errno { return d.Trim("a", 0) },
		func() api.Errno { return d.Move("a", "b") }, func() api.Errno { return d.Drop("b") }, d.Sync,
	} {
		ok(t, call())
		d.Read("a")
		d.Names()
		d.Used()
		d.Waits()
		d.Room(99)
		if d.Calls() != i+1 {
			t.Errorf("Calls: %d, want %d", d.Calls(), i+1)
		}
	}
}

// R3: what is handed in is not kept, what is answered shares no memory with what is kept.

func TestMemory(t *testing.T) {
	text := func(b []byte) string { return unsafe.String(&b[0], len(b)) }
	spoil := func(l ...[]byte) {
		for _, b := range l {
			b[0] = 'q'
		}
	}
	d := filled(t, "c", "12", "d", "", "q", "345")
	a, b, c, xyz := []byte("a"), []byte("b"), []byte("c"), []byte("xyz")
	ok(t, d.Put(text(a), 0, text(xyz)))
	ok(t, d.Move(text(a), text(b)))
	spoil(a, b, xyz)
	ok(t, d.Trim(text(c), 1))
	spoil(c)
	a[0] = 'd'
	ok(t, d.Drop(text(a)))
	spoil(a)
	want := []string{"b", "xyz", "c", "1", "q", "345"}
	has(t, d, want...)
	d.Fail(99) // the row is done anew
	d.Wake()
	has(t, d, want...)
	s, _ := d.Read("b")
	ok(t, d.Put("b", 0, "uvw"))
	if s != "xyz" {
		t.Errorf("an answer became %q", s)
	}
	*unsafe.StringData(d.Names()[0]) = '?'
	has(t, d, "b", "uvw", "c", "1", "q", "345")
}
