package disk

import (
	"fmt"
	"maps"
	"math"
	"math/rand"
	"slices"
	"testing"

	"auspice/api"
)

// 5.4

func TestExample(t *testing.T) {
	d := New()
	ok(t, d.Put("a", 0, "xyz"))
	ok(t, d.Sync())
	ok(t, d.Put("a", 3, "uvw"))
	d.Fail(3)
	d.Wake()
	has(t, d, "a", "xyzuv")
}

func TestKept(t *testing.T) {
	before := []string{"a", "abc", "c", "old"}
	put := []string{"a", "abXY", "c", "old"}
	for _, c := range []struct {
		k    int
		want []string
	}{
		{math.MinInt, before}, {-1, before}, {0, before},
		{1, before}, {2, []string{"a", "abX", "c", "old"}}, {3, put}, // Put(a, 2, XY) costs 3
		{4, []string{"a", "a", "c", "old"}}, // Trim(a, 1)
		{5, []string{"c", "a"}},             // Move(a, c)
		{6, []string{"c", "a"}},             // Move(c, c)
		{7, nil},                            // Drop(c)
		{8, []string{"e", ""}},              // the first of Put(e, 0, hi): the file is made
		{9, []string{"e", "h"}},
		{10, []string{"e", "hi"}},
		{11, []string{"e", "hi", "f", ""}}, // Put(f, 0, "") costs 1
		{12, []string{"e", "hi", "f", ""}}, {math.MaxInt, []string{"e", "hi", "f", ""}},
	} {
		t.Run(fmt.Sprint(c.k), func(t *testing.T) {
			d := filled(t, before...)
			ok(t, d.Put("a", 2, "XY"))
			ok(t, d.Trim("a", 1))
			ok(t, d.Move("a", "c"))
			ok(t, d.Move("c", "c"))
			ok(t, d.Drop("c"))
			ok(t, d.Put("e", 0, "hi"))
			ok(t, d.Put("f", 0, ""))
			d.Fail(c.k)
			d.Wake()
			has(t, d, c.want...)
			if d.Waits() != 0 {
				t.Errorf("Waits: %d", d.Waits())
			}
			d.Fail(0)
			d.Wake()
			has(t, d, c.want...)
		})
	}
}

func TestWhatIsBehindATornPutIsLost(t *testing.T) {
	d := filled(t, "a", "abc")
	ok(t, d.Put("b", 0, "12345"))
	ok(t, d.Drop("a"))
	d.Fail(5)
	d.Wake()
	has(t, d, "a", "abc", "b", "1234")
}

func TestFailOfADiskThatIsDown(t *testing.T) {
	d := filled(t, "a", "abc")
	ok(t, d.Put("a", 0, "x"))
	d.Fail(0)
	d.Fail(9)
	d.Wake()
	has(t, d, "a", "abc")
	ok(t, d.Put("a", 0, "y"))
	d.Wake() // nothing, as it is up
	if d.Waits() != 1 || d.Down() {
		t.Errorf("behind Wake of a disk that is up: %d wait, down %v", d.Waits(), d.Down())
	}
	has(t, d, "a", "ybc")
}

func TestTripAtAChange(t *testing.T) {
	for k, want := range map[int][]string{-5: {"a", "abc"}, 0: {"a", "abc"}, 2: {"a", "xbc"}, 3: {"a", "xyc"}, 9: {"a", "xyc"}} {
		d := filled(t, "a", "abc")
		d.Trip(1, k)
		if d.Down() {
			t.Errorf("down behind Trip")
		}
		d.Read("a")
		is(t, "Put of no name", d.Put("", 0, "xy"), api.ErrArg)
		is(t, "Trim of none", d.Trim("q", 0), api.ErrNone)
		d.Room(1)
		is(t, "Put without room", d.Put("a", 3, "xy"), api.ErrFull)
		d.Room(-1)
		n := d.Calls()
		is(t, "Put at the trip", d.Put("a", 0, "xy"), api.ErrDown)
		if !d.Down() || d.Calls() != n+1 {
			t.Errorf("behind a trip: down %v, %d calls, want %d", d.Down(), d.Calls(), n+1)
		}
		d.Wake()
		has(t, d, want...)
		ok(t, d.Put("b", 0, "1")) // the trip is gone
	}
}

func TestTripAtEachCall(t *testing.T) {
	for _, c := range []struct {
		name string
		call func(d *Disk) api.Errno
		want []string
	}{
		{"Put", func(d *Disk) api.Errno { return d.Put("b", 0, "1") }, []string{"a", "abc", "b", "1"}},
		{"Trim", func(d *Disk) api.Errno { return d.Trim("a", 1) }, []string{"a", "a"}},
		{"Move", func(d *Disk) api.Errno { return d.Move("a", "b") }, []string{"b", "abc"}},
		{"Drop", func(d *Disk) api.Errno { return d.Drop("a") }, nil},
		{"Sync", func(d *Disk) api.Errno { return d.Sync() }, []string{"a", "abc"}},
	} {
		for _, keep := range []int{0, 2} {
			d := filled(t, "a", "abc")
			d.Trip(1, keep)
			is(t, c.name, c.call(d), api.ErrDown)
			d.Wake()
			want := c.want
			if keep == 0 {
				want = []string{"a", "abc"}
			}
			has(t, d, want...)
		}
	}
}

func TestTripAtSync(t *testing.T) {
	for k, want := range map[int][]string{0: nil, 1: {"a", ""}, 3: {"a", "xy"}, 4: {"a", "xyz"}, 9: {"a", "xyz"}} {
		d := New()
		d.Trip(2, k)
		ok(t, d.Put("a", 0, "xyz"))
		is(t, "Sync at the trip", d.Sync(), api.ErrDown)
		if d.Calls() != 2 {
			t.Errorf("Calls: %d", d.Calls())
		}
		d.Wake()
		has(t, d, want...)
	}
}

func TestTripAtTheNth(t *testing.T) {
	for n, at := range map[int]int{math.MinInt: 1, -1: 1, 0: 1, 1: 1, 2: 2, 5: 5} {
		d := New()
		d.Trip(n, 0)
		for i := 1; i < at; i++ {
			ok(t, d.Put("a", 0, "x"))
		}
		is(t, "Put at the trip", d.Put("a", 0, "x"), api.ErrDown)
	}
	d := New()
	d.Trip(math.MaxInt, 0)
	for range 100 {
		ok(t, d.Put("a", 0, "x"))
	}
}

func TestOneTripAtMost(t *testing.T) {
	d := New()
	d.Trip(1, 0)
	d.Trip(3, 9) // takes its place
	ok(t, d.Put("a", 0, "x"))
	ok(t, d.Sync())
	is(t, "Put at the trip", d.Put("a", 1, "y"), api.ErrDown)
	d.Wake()
	has(t, d, "a", "xy")
	d.Trip(1, 0)
	d.Fail(0) // it is gone
	d.Wake()
	ok(t, d.Put("a", 0, "z"))
	d.Fail(1)
	d.Trip(2, 0) // of a disk that is down it waits, and what is asked then is not counted
	d.Sync()
	d.Fail(0)
	d.Wake()
	ok(t, d.Sync())
	is(t, "Sync at the trip", d.Sync(), api.ErrDown)
}

// 5.5

// plain is a disk that does its row anew at each look.
type plain struct {
	sure  map[string]string
	row   []func(f map[string]string, n int)
	costs []int
	torn  []bool
}

// look is the files behind the row.
func (p *plain) look() map[string]string { return p.behind(math.MaxInt / 2) }

// behind is the files, if so much of the row is kept.
func (p *plain) behind(k int) map[string]string {
	f := maps.Clone(p.sure)
	for i, do := range p.row {
		if p.costs[i] > k {
			if p.torn[i] && k > 0 {
				do(f, k-1)
			}
			break
		}
		k -= p.costs[i]
		do(f, p.costs[i]-1)
	}
	return f
}

// note lays a change in the row.
func (p *plain) note(cost int, torn bool, do func(f map[string]string, n int)) {
	p.row, p.costs, p.torn = append(p.row, do), append(p.costs, cost), append(p.torn, torn)
}

// set makes some files sure, and empties the row.
func (p *plain) set(f map[string]string) {
	p.sure, p.row, p.costs, p.torn = f, nil, nil, nil
}

// listed is files as has takes them.
func listed(f map[string]string) (l []string) {
	for _, file := range slices.Sorted(maps.Keys(f)) {
		l = append(l, file, f[file])
	}
	return l
}

// change does a change of any kind on both, if it may be done.
func (p *plain) change(t *testing.T, d *Disk, r *rand.Rand) {
	name := func() string { return string(rune('a' + r.Intn(4))) }
	file, to := name(), name()
	body, there := p.look()[file]
	switch kind := r.Intn(5); {
	case kind < 2:
		at, s := r.Intn(len(body)+1), fmt.Sprint(r.Intn(100000))[r.Intn(2):]
		ok(t, d.Put(file, at, s))
		p.note(1+len(s), true, func(f map[string]string, n int) {
			f[file] = f[file][:at] + s[:n] + f[file][min(at+n, len(f[file])):]
		})
	case !there:
		is(t, "Trim of none", d.Trim(file, 0), api.ErrNone)
	case kind == 2:
		n := r.Intn(len(body) + 1)
		ok(t, d.Trim(file, n))
		p.note(1, false, func(f map[string]string, _ int) { f[file] = f[file][:n] })
	case kind == 3:
		ok(t, d.Move(file, to))
		p.note(1, false, func(f map[string]string, _ int) {
			s := f[file]
			delete(f, file)
			f[to] = s
		})
	default:
		ok(t, d.Drop(file))
		p.note(1, false, func(f map[string]string, _ int) { delete(f, file) })
	}
}

func TestAnyCalls(t *testing.T) {
	r := rand.New(rand.NewSource(1))
	for range 400 {
		d, p := New(), &plain{sure: map[string]string{}}
		for range 60 {
			switch r.Intn(12) {
			case 0:
				ok(t, d.Sync())
				p.set(p.look())
			case 1:
				k := r.Intn(30) - 2
				p.set(p.behind(k))
				d.Fail(k)
				d.Wake()
			case 2:
				k := r.Intn(30)
				p.set(p.behind(k))
				d.Trip(1, k)
				is(t, "Sync at the trip", d.Sync(), api.ErrDown)
				d.Wake()
			default:
				p.change(t, d, r)
			}
			has(t, d, listed(p.look())...)
			if d.Waits() != len(p.row) {
				t.Errorf("Waits: %d, want %d", d.Waits(), len(p.row))
			}
			if t.Failed() {
				return
			}
		}
	}
}
