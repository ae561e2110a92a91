package seglog

import (
	"fmt"
	"slices"
	"testing"

	"auspice/api"
	"auspice/disk"
)

// call is a call of a log that changes it.
type call struct {
	name string
	do   func(l *Log) api.Errno
	may  func(old, now state) bool // whether it may leave that behind, if the power fails
}

// state is what a log has.
type state struct {
	first int
	texts []string
}

func stateOf(l *Log) state { return state{l.First(), texts(l)} }

func (s state) equal(o state) bool { return s.first == o.first && slices.Equal(s.texts, o.texts) }

// begins tells whether one list is a beginning of another one.
func begins(l, whole []string) bool { return len(l) <= len(whole) && slices.Equal(l, whole[:len(l)]) }

// puts is Append: behind it the log is cut at a text, or has a beginning of those that are new.
func puts(at int, more ...string) call {
	return call{fmt.Sprint("Append at ", at, " of ", len(more)), func(l *Log) api.Errno { return l.Append(at, more) }, func(old, now state) bool {
		n := at - old.first
		cut := len(now.texts) >= n && begins(now.texts, old.texts)
		return now.first == old.first && (cut || begins(now.texts, slices.Concat(old.texts[:n], more)) && len(now.texts) >= n)
	}}
}

// drops is Drop: behind it the log has fewer texts at its front.
func drops(below int) call {
	return call{fmt.Sprint("Drop below ", below), func(l *Log) api.Errno { return l.Drop(below) }, func(old, now state) bool {
		n := now.first - old.first
		return n >= 0 && now.first <= max(below, old.first) && slices.Equal(now.texts, old.texts[n:])
	}}
}

// resets is Reset: behind it the log is cut at a text, or empty.
func resets(next int) call {
	return call{fmt.Sprint("Reset to ", next), func(l *Log) api.Errno { return l.Reset(next) }, func(old, now state) bool {
		return now.first == next && len(now.texts) == 0 || now.first == old.first && begins(now.texts, old.texts)
	}}
}

// of is a log on a disk of its own, from 3 on.
func of(t *testing.T, old ...string) (*disk.Disk, *Log) {
	t.Helper()
	d := disk.New()
	l := open(t, d)
	ok(t, l.Reset(3))
	ok(t, l.Append(3, old))
	return d, l
}

// pieces of 2 texts each: 3 4, 5 6, 7 8, and 9 alone.
func pieced() (l []string) {
	for i := range 7 {
		l = append(l, string(rune('a'+i))+big(300))
	}
	return l
}

// calls are calls of a log of pieced, of which each changes it.
func calls() []call {
	return []call{
		puts(10, "A"), puts(10, "A", "B", big(300), "C"), puts(10, pieced()...), puts(9), puts(9, "A"), puts(8, "A", big(600), "B"), puts(7), puts(7, pieced()...),
		puts(6, "A"), puts(5, "A"), puts(4, "A", "B"), puts(3), puts(3, "A"), puts(3, pieced()[1:]...),
		drops(5), drops(6), drops(7), drops(9), drops(99),
		resets(1), resets(3), resets(5), resets(9), resets(10), resets(99),
	}
}

// 6.6

func TestWhereverThePowerFails(t *testing.T) {
	for _, c := range calls() {
		d, l := of(t, pieced()...)
		old, before := stateOf(l), d.Calls()
		ok(t, c.do(l))
		last, n := stateOf(l), d.Calls()-before
		if n < 2 || old.equal(last) {
			t.Fatalf("%s does nothing", c.name)
		}
		for at := 1; at <= n; at++ {
			for k := 0; k <= 2800; k += step(k) {
				d, l := of(t, pieced()...)
				d.Trip(at, k)
				is(t, c.name, c.do(l), api.ErrDown)
				broken(t, l, old)
				d.Wake()
				broken(t, l, old)
				again := open(t, d)
				now := stateOf(again)
				if !old.equal(now) && !last.equal(now) && !c.may(old, now) {
					t.Errorf("%s, the power fails at its call %d, %d kept: from %d, %.300q", c.name, at, k, now.first, now.texts)
				}
				if k == 0 && !old.equal(now) {
					t.Errorf("%s, the power fails at its call %d, none kept: something changed", c.name, at)
				}
				same(t, d, again)
				ok(t, again.Append(again.Next(), []string{"more"}))
				same(t, d, again)
				if t.Failed() {
					return
				}
			}
		}
		behind(t, c, last)
	}
}

// step is how much more is kept at the next try: each byte near an edge, fewer within a text.
func step(k int) int {
	if k < 40 {
		return 1
	}
	return 37
}

// behind fails, if what a call did is not sure.
func behind(t *testing.T, c call, last state) {
	t.Helper()
	d, l := of(t, pieced()...)
	ok(t, c.do(l))
	d.Fail(0)
	d.Wake()
	if now := stateOf(open(t, d)); !now.equal(last) {
		t.Errorf("%s: the power fails behind it, and it is not there", c.name)
	}
}

// 6.5

// broken fails, if a log does not answer as one whose disk had an error.
func broken(t *testing.T, l *Log, old state) {
	t.Helper()
	if now := stateOf(l); !now.equal(old) {
		t.Errorf("behind an error from %d, %.300q, ahead of it from %d, %.300q", now.first, now.texts, old.first, old.texts)
	}
	is(t, "Append", l.Append(l.Next(), []string{"a"}), api.ErrDown)
	is(t, "Append of nothing", l.Append(l.Next(), nil), api.ErrDown)
	is(t, "Append at no place", l.Append(-1, nil), api.ErrDown)
	is(t, "Drop", l.Drop(0), api.ErrDown)
	is(t, "Reset", l.Reset(1), api.ErrDown)
	is(t, "Reset to none", l.Reset(0), api.ErrDown)
}

func TestADiskThatIsDown(t *testing.T) {
	for _, c := range calls() {
		d, l := of(t, pieced()...)
		old := stateOf(l)
		d.Fail(0)
		is(t, c.name, c.do(l), api.ErrDown)
		d.Wake()
		broken(t, l, old)
		if now := stateOf(open(t, d)); !now.equal(old) {
			t.Errorf("%s: the log is another one", c.name)
		}
	}
}

// 6.3: a disk that is full.

func TestFull(t *testing.T) {
	a, A, b := big(300), big(301), big(250)
	for room, left := range map[int][]string{0: {a}, 300: {a}, 301: {a, A}, 550: {a, A}, 551: {a, A, b}, 558: {a, A, b}, 559: {a, A, b, "c"}, 999: {a, A, b, "c"}} {
		d, l := of(t, a, big(212), big(600))
		d.Room(300 + room)
		want := api.OK
		if len(left) < 4 {
			want = api.ErrFull
		}
		calls := d.Calls()
		is(t, fmt.Sprint("Append with room for ", room), l.Append(4, []string{A, b, "c"}), want)
		has(t, l, 3, left...)
		puts := len(left) - 1
		if want == api.ErrFull && d.Calls() != calls+2+puts+1 { // Drop, Trim, what was put, Sync
			t.Errorf("room for %d: %d calls", room, d.Calls()-calls)
		}
		same(t, d, l)
		d.Room(-1)
		ok(t, l.Append(l.Next(), []string{"more"}))
		has(t, l, 3, append(left, "more")...)
		same(t, d, l)
	}
}

func TestFullWithNothingPut(t *testing.T) {
	d, l := of(t, "a")
	d.Room(0)
	calls := d.Calls()
	is(t, "Append without room", l.Append(4, []string{"b"}), api.ErrFull)
	if d.Calls() != calls+1 {
		t.Errorf("%d calls, want a Sync alone", d.Calls()-calls)
	}
	has(t, l, 3, "a")
	ok(t, l.Drop(9))
	ok(t, l.Append(4, nil))
	ok(t, l.Reset(8))
	has(t, l, 8)
	same(t, d, l)
}

func TestFullAndThePowerFails(t *testing.T) {
	d, l := of(t, "a")
	old := stateOf(l)
	d.Room(16)
	d.Trip(2, 0)
	is(t, "Append without room, at a trip", l.Append(4, []string{"b", "c"}), api.ErrDown)
	broken(t, l, old)
	d.Wake()
	has(t, open(t, d), 3, "a")
}

// The order of what is done: whatever is done of a call when the power fails, is what these changes of a disk come to.

func TestWhatIsDone(t *testing.T) {
	files := []string{"w.000000000001", packed("a", "b"), "w.000000000003", packed(big(600)), "w.000000000004", packed("c", "d"), "w.000000000006", ""}
	drop := func(i string) func(d *disk.Disk) {
		return func(d *disk.Disk) { d.Drop("w.00000000000" + i) }
	}
	trim := func(i string, n int) func(d *disk.Disk) {
		return func(d *disk.Disk) { d.Trim("w.00000000000"+i, n) }
	}
	put := func(i string, at int, s string) func(d *disk.Disk) {
		return func(d *disk.Disk) { d.Put("w.00000000000"+i, at, s) }
	}
	move := func(i, j string) func(d *disk.Disk) {
		return func(d *disk.Disk) { d.Move("w.00000000000"+i, "w.00000000000"+j) }
	}
	sync := func(d *disk.Disk) { d.Sync() }
	for _, c := range []struct {
		call  call
		steps []func(d *disk.Disk)
	}{
		{puts(6), []func(d *disk.Disk){drop("6")}}, // no text, and none went: no Sync
		{puts(6, "e", "f"), []func(d *disk.Disk){drop("6"), put("4", 16, packed("e")), put("4", 24, packed("f")), sync}},
		{puts(6, big(600), "f"), []func(d *disk.Disk){drop("6"), put("4", 16, packed(big(600))), put("7", 0, packed("f")), sync}},
		{puts(5), []func(d *disk.Disk){drop("6"), trim("4", 8), sync}},
		{puts(4, "C"), []func(d *disk.Disk){drop("6"), drop("4"), put("4", 0, packed("C")), sync}},
		{puts(3, "B"), []func(d *disk.Disk){drop("6"), drop("4"), drop("3"), put("1", 16, packed("B")), sync}},
		{puts(1), []func(d *disk.Disk){drop("6"), drop("4"), drop("3"), trim("1", 0), sync}},
		{drops(5), []func(d *disk.Disk){drop("1"), drop("3"), sync}},
		{drops(6), []func(d *disk.Disk){drop("1"), drop("3"), drop("4"), sync}},
		{drops(2), nil},
		{resets(1), []func(d *disk.Disk){drop("6"), drop("4"), drop("3"), trim("1", 0), move("1", "1"), sync}},
		{resets(6), []func(d *disk.Disk){drop("6"), drop("4"), drop("3"), trim("1", 0), move("1", "6"), sync}},
	} {
		d := laid(t, files...)
		l := open(t, d)
		before := d.Calls()
		ok(t, c.call.do(l))
		if n := d.Calls() - before; n != len(c.steps) {
			t.Errorf("%s: %d calls, want %d", c.call.name, n, len(c.steps))
		}
		for n := range c.steps {
			d, twin := laid(t, files...), laid(t, files...)
			l := open(t, d)
			d.Trip(n+1, 1<<20)
			is(t, c.call.name, c.call.do(l), api.ErrDown)
			d.Wake()
			for _, step := range c.steps[:n+1] {
				step(twin)
			}
			if got, want := onto(d), onto(twin); !slices.Equal(got, want) {
				t.Errorf("%s, behind %d calls: %.300q, want %.300q", c.call.name, n+1, got, want)
			}
		}
	}
}

func TestWhatOpenDoes(t *testing.T) {
	files := []string{"w.000000000001", packed("a", "b") + "?", "w.000000000003", packed("c"), "w.000000000004", "", "w.000000000009", ""}
	left := [][]string{files[:6], files[:4], files[:2], {"w.000000000001", packed("a", "b")}}
	for n, want := range left {
		d := laid(t, files...)
		d.Trip(n+1, 1<<20)
		_, e := Open(d)
		is(t, "Open", e, api.ErrDown)
		d.Wake()
		if got := onto(d); !slices.Equal(got, want) {
			t.Errorf("Open, behind %d calls: %.300q, want %.300q", n+1, got, want)
		}
		has(t, open(t, d), 1, "a", "b")
	}
}
