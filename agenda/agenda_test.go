package agenda

import (
	"math"
	"math/rand"
	"slices"
	"testing"

	"auspice/api"
)

// draws is a row of numbers that is the same at each run.
func draws() *rand.Rand { return rand.New(rand.NewSource(1)) }

// filled is an agenda of items that are due at some times, added in this order; each What is ten times the ID.
func filled(t *testing.T, ats ...int) *Agenda {
	t.Helper()
	a := New()
	for i, at := range ats {
		if id, e := a.Add(at, 10*(i+1)); id != i+1 || e != api.OK {
			t.Fatalf("Add of the item %d: %d, %v", i+1, id, e)
		}
	}
	return a
}

// want fails, if an agenda's items are not those that are wanted.
func want(t *testing.T, a *Agenda, l ...api.Item) {
	t.Helper()
	if got := a.All(); !slices.Equal(got, l) {
		t.Errorf("All: %v, want %v", got, l)
	}
	if n := a.Len(); n != len(l) {
		t.Errorf("Len: %d, want %d", n, len(l))
	}
	first, ok := a.First()
	if ok != (len(l) > 0) || ok && first != l[0] || !ok && first != (api.Item{}) {
		t.Errorf("First: %v, %v, with the items %v", first, ok, l)
	}
}

// due fails, if what is due at now is not what is wanted.
func due(t *testing.T, a *Agenda, now int, l ...api.Item) {
	t.Helper()
	if got := a.Due(now); !slices.Equal(got, l) {
		t.Errorf("Due(%d): %v, want %v", now, got, l)
	}
}

// 4.1

func TestNewHasNoItems(t *testing.T) {
	a := New()
	want(t, a)
	due(t, a, math.MaxInt)
	if a.Drop(0) || a.Drop(1) {
		t.Errorf("Drop of what is not there: true")
	}
	if b := New(); a == b {
		t.Errorf("New answers one agenda twice")
	}
}

func TestExample(t *testing.T) {
	a := New()
	for i, c := range []struct{ at, what int }{{5, 7}, {3, 8}, {3, 9}} {
		if id, e := a.Add(c.at, c.what); id != i+1 || e != api.OK {
			t.Errorf("Add(%d, %d): %d, %v", c.at, c.what, id, e)
		}
	}
	want(t, a, api.Item{At: 3, ID: 2, What: 8}, api.Item{At: 3, ID: 3, What: 9}, api.Item{At: 5, ID: 1, What: 7})
	due(t, a, 3, api.Item{At: 3, ID: 2, What: 8}, api.Item{At: 3, ID: 3, What: 9})
	want(t, a, api.Item{At: 5, ID: 1, What: 7})
}

func TestLikeTimesStandByID(t *testing.T) {
	a := New()
	var l []api.Item
	for i := range 100 {
		a.Add(4, -i)
		l = append(l, api.Item{At: 4, ID: i + 1, What: -i})
	}
	want(t, a, l...)
	due(t, a, 3)
	due(t, a, 4, l...)
	want(t, a)
}

func TestAnyTimes(t *testing.T) {
	a := filled(t, math.MaxInt, 0, math.MinInt, -1, 1, math.MinInt, math.MaxInt)
	low := []api.Item{{At: math.MinInt, ID: 3, What: 30}, {At: math.MinInt, ID: 6, What: 60}}
	mid := []api.Item{{At: -1, ID: 4, What: 40}, {At: 0, ID: 2, What: 20}, {At: 1, ID: 5, What: 50}}
	high := []api.Item{{At: math.MaxInt, ID: 1, What: 10}, {At: math.MaxInt, ID: 7, What: 70}}
	want(t, a, slices.Concat(low, mid, high)...)
	due(t, a, math.MinInt, low...)
	due(t, a, math.MinInt)
	due(t, a, -2)
	due(t, a, -1, mid[0])
	due(t, a, math.MaxInt-1, mid[1:]...)
	want(t, a, high...)
	due(t, a, math.MaxInt, high...)
	want(t, a)
}

func TestAnyWhat(t *testing.T) {
	a := New()
	a.Add(2, math.MinInt)
	a.Add(1, math.MaxInt)
	a.Add(0, 0)
	want(t, a, api.Item{At: 0, ID: 3, What: 0}, api.Item{At: 1, ID: 2, What: math.MaxInt}, api.Item{At: 2, ID: 1, What: math.MinInt})
}

func TestDrop(t *testing.T) {
	a := filled(t, 3, 1, 2, 1)
	for _, id := range []int{0, -1, 5, 10, 20, math.MinInt, math.MaxInt} { // 10 and 20 are What of some
		if a.Drop(id) {
			t.Errorf("Drop(%d), of no item: true", id)
		}
	}
	one, two, three, four := api.Item{At: 3, ID: 1, What: 10}, api.Item{At: 1, ID: 2, What: 20}, api.Item{At: 2, ID: 3, What: 30}, api.Item{At: 1, ID: 4, What: 40}
	want(t, a, two, four, three, one)
	for _, c := range []struct {
		id   int
		left []api.Item
	}{{2, []api.Item{four, three, one}}, {1, []api.Item{four, three}}, {3, []api.Item{four}}, {4, nil}} {
		if !a.Drop(c.id) {
			t.Errorf("Drop(%d): false", c.id)
		}
		if a.Drop(c.id) {
			t.Errorf("Drop(%d), again: true", c.id)
		}
		want(t, a, c.left...)
	}
}

func TestDropAnywhere(t *testing.T) {
	ats := []int{8, 3, 9, 1, 7, 2, 6, 4, 5, 0}
	for id := 1; id <= len(ats); id++ {
		a := filled(t, ats...)
		l := a.All()
		if !a.Drop(id) {
			t.Errorf("Drop(%d): false", id)
		}
		l = slices.DeleteFunc(l, func(x api.Item) bool { return x.ID == id })
		want(t, a, l...)
		due(t, a, 9, l...)
	}
}

func TestFirstChangesNothing(t *testing.T) {
	a := filled(t, 2, 1)
	for range 3 {
		if x, ok := a.First(); x != (api.Item{At: 1, ID: 2, What: 20}) || !ok {
			t.Errorf("First: %v, %v", x, ok)
		}
	}
	want(t, a, api.Item{At: 1, ID: 2, What: 20}, api.Item{At: 2, ID: 1, What: 10})
}

func TestFull(t *testing.T) {
	a := New()
	for i := range api.MaxItems {
		if id, e := a.Add(-i, 0); id != i+1 || e != api.OK {
			t.Fatalf("Add of the item %d: %d, %v", i+1, id, e)
		}
	}
	all := a.All()
	for range 3 {
		if id, e := a.Add(math.MinInt, 1); id != 0 || e != api.ErrFull {
			t.Errorf("Add to a full agenda: %d, %v", id, e)
		}
	}
	want(t, a, all...)
	if !a.Drop(7) {
		t.Errorf("Drop(7): false")
	}
	if id, e := a.Add(5, 6); id != api.MaxItems+1 || e != api.OK {
		t.Errorf("Add behind a Drop: %d, %v", id, e)
	}
	if id, e := a.Add(5, 6); id != 0 || e != api.ErrFull {
		t.Errorf("Add to an agenda that is full again: %d, %v", id, e)
	}
	due(t, a, 1-api.MaxItems, api.Item{At: 1 - api.MaxItems, ID: api.MaxItems})
	if id, e := a.Add(6, 7); id != api.MaxItems+2 || e != api.OK {
		t.Errorf("Add behind a Due: %d, %v", id, e)
	}
	if n := a.Len(); n != api.MaxItems {
		t.Errorf("Len: %d", n)
	}
}

func TestNil(t *testing.T) {
	var a *Agenda
	if id, e := a.Add(1, 2); id != 0 || e != api.ErrArg {
		t.Errorf("Add: %d, %v", id, e)
	}
	if a.Drop(0) || a.Drop(1) {
		t.Errorf("Drop: true")
	}
	want(t, a)
	due(t, a, math.MaxInt)
}

// 4.2

func TestAnIDNeverComesAgain(t *testing.T) {
	a := filled(t, 1, 2, 3)
	a.Drop(3)
	if id, _ := a.Add(0, 0); id != 4 {
		t.Errorf("Add behind a Drop of the last: %d", id)
	}
	a.Due(math.MaxInt)
	want(t, a)
	if id, _ := a.Add(0, 0); id != 5 {
		t.Errorf("Add behind a Due of all: %d", id)
	}
	for _, id := range []int{1, 2, 3, 4} {
		if a.Drop(id) {
			t.Errorf("Drop(%d), of an item that went: true", id)
		}
	}
}

// plain is an agenda that keeps its items in a list, and looks for the first one through all.
type plain struct {
	items []api.Item
	last  int
}

func (p *plain) add(at, what int) int {
	p.last++
	p.items = append(p.items, api.Item{At: at, ID: p.last, What: what})
	return p.last
}

func (p *plain) drop(id int) bool {
	n := len(p.items)
	p.items = slices.DeleteFunc(p.items, func(x api.Item) bool { return x.ID == id })
	return len(p.items) < n
}

// take takes the first of the items that are due at now out of the list.
func (p *plain) take(now int) (api.Item, bool) {
	best := -1
	for i, x := range p.items {
		if x.At <= now && (best < 0 || x.At < p.items[best].At) { // the list is by ID
			best = i
		}
	}
	if best < 0 {
		return api.Item{}, false
	}
	x := p.items[best]
	p.items = slices.Delete(p.items, best, best+1)
	return x, true
}

func (p *plain) due(now int) (l []api.Item) {
	for {
		x, ok := p.take(now)
		if !ok {
			return l
		}
		l = append(l, x)
	}
}

func (p *plain) all() []api.Item {
	q := plain{items: slices.Clone(p.items)}
	return q.due(math.MaxInt)
}

func TestAnyCalls(t *testing.T) {
	r := draws()
	for range 300 {
		a, p := New(), &plain{}
		told := map[int]bool{}
		for range 100 {
			switch r.Intn(5) {
			case 0, 1, 2:
				at, what := r.Intn(20)-5, r.Int()
				if id, e := a.Add(at, what); id != p.add(at, what) || e != api.OK {
					t.Fatalf("Add: %d, %v, want %d", id, e, p.last)
				}
			case 3:
				id := r.Intn(p.last + 2)
				if got := a.Drop(id); got != p.drop(id) {
					t.Fatalf("Drop(%d): %v", id, got)
				}
			case 4:
				now := r.Intn(20) - 6
				l := a.Due(now)
				if w := p.due(now); !slices.Equal(l, w) {
					t.Fatalf("Due(%d): %v, want %v", now, l, w)
				}
				for _, x := range l {
					if told[x.ID] || x.At > now {
						t.Fatalf("Due(%d) tells %v, told before: %v", now, x, told[x.ID])
					}
					told[x.ID] = true
				}
			}
			want(t, a, p.all()...)
		}
	}
}

// R3: what is answered shares no memory with what is kept, or with another answer.

func TestAnswersAreNewMemory(t *testing.T) {
	a := filled(t, 1, 2, 3, 4, 5)
	kept := a.All()
	spoil(a.All())
	want(t, a, kept...)
	spoil(a.Due(2))
	want(t, a, kept[2:]...)
	// What goes leaves room behind what stays: new items must not come into an answer.
	first := a.Due(3)
	told := slices.Clone(first)
	a.Add(0, 1)
	a.Add(9, 1)
	if !slices.Equal(first, told) {
		t.Errorf("an answer of Due became %v", first)
	}
	spoil(append(first, api.Item{At: 77}))
	want(t, a, api.Item{At: 0, ID: 6, What: 1}, kept[3], kept[4], api.Item{At: 9, ID: 7, What: 1})
}

// spoil overwrites a list, up to the end of its memory.
func spoil(l []api.Item) {
	l = l[:cap(l)]
	for i := range l {
		l[i] = api.Item{At: -99, ID: -99, What: -99}
	}
}

func TestTwoAgendasShareNothing(t *testing.T) {
	a, b := filled(t, 1, 2), filled(t, 3)
	a.Due(1)
	b.Drop(1)
	want(t, a, api.Item{At: 2, ID: 2, What: 20})
	want(t, b)
}
