package client_test

import (
	"math"
	"slices"
	"testing"
	"unsafe"

	"auspice/api"
	"auspice/client"
)

// 22.1

func TestNewReader(t *testing.T) {
	for _, n := range append(far(), 0, api.MaxNodes+1) {
		if client.NewReader(n, "p", 9) != nil {
			t.Errorf("NewReader of %d nodes: not nil", n)
		}
	}
	for _, s := range noWords() {
		if client.NewReader(3, s, 9) != nil {
			t.Errorf("NewReader of %q: not nil", s)
		}
	}
	for _, n := range []int{0, -1, math.MinInt} {
		if client.NewReader(3, "p", n) != nil {
			t.Errorf("NewReader of %d at most: not nil", n)
		}
	}
	for n := 1; n <= api.MaxNodes; n++ {
		reads(t, reader(t, n), 0, 0, 0, nil)
	}
	for _, s := range words() {
		for _, most := range []int{1, 2, 64, 65, api.MaxIndex + 1, math.MaxInt} {
			want := api.Ask{Name: s, Most: most}
			if a, ok := client.NewReader(2, s, most).Ask(); a != want || !ok {
				t.Errorf("Ask of NewReader(2, %q, %d): %v, %v", s, most, a, ok)
			}
		}
	}
}

// 22.3

func TestMatchesCome(t *testing.T) {
	x := reader(t, 3)
	x.Late()
	at := 0
	for _, n := range []int{2, 0, 1, 9, 3, 20, 0} { // also more than were asked for
		x.Told(row(at, at+n), at+n, api.OK)
		at += n
		reads(t, x, 1, at, 0, gets(0, at))
	}
}

// What says that it is of other numbers is not got.
func TestMatchesOfOtherNumbers(t *testing.T) {
	for _, n := range []int{0, 1, 5} {
		for _, next := range append(far(), 0, 1, 2, 3, 4, 5, 6, 7, 8, 9) {
			x := reader(t, 3)
			x.Told(row(0, 3), 3, api.OK)
			x.Told(row(3, 3+n), next, api.OK)
			if next == 3+n {
				reads(t, x, 0, 3+n, 0, gets(0, 3+n))
			} else {
				reads(t, x, 1, 3, 0, gets(0, 3))
			}
		}
	}
}

func TestMatchesAreGone(t *testing.T) {
	x := reader(t, 3)
	x.Told(nil, 5, api.ErrGone)
	reads(t, x, 0, 5, 5, nil)
	x.Told(row(5, 7), 7, api.OK)
	x.Told(row(7, 9), 8, api.ErrGone) // matches beside an error say nothing
	want := append(gets(5, 7), gets(8, 10)...)
	reads(t, x, 0, 8, 6, want[:2])
	x.Told(row(8, 10), 10, api.OK)
	reads(t, x, 0, 10, 6, want)
	to := 0
	for _, next := range []int{10, 9, 0, -1, math.MinInt} {
		x.Told(nil, next, api.ErrGone)
		to = (to + 1) % 3
		reads(t, x, to, 10, 6, want)
	}
	x.Told(nil, 11, api.ErrGone)
	reads(t, x, to, 11, 7, want)
}

func TestAnErrorOfReading(t *testing.T) {
	for _, e := range append(others(), api.ErrNone, api.ErrStamp) {
		if e == api.ErrGone {
			continue
		}
		for _, next := range append(far(), 0, 3, 4, 5, 6) {
			x := reader(t, 3)
			x.Told(row(0, 3), 3, api.OK)
			x.Told(row(3, 5), next, e)
			reads(t, x, 1, 3, 0, gets(0, 3))
			x.Told(nil, next, e)
			reads(t, x, 2, 3, 0, gets(0, 3))
		}
	}
}

// No sum goes round at the ends of what a number can be.
func TestReadingAtTheEnd(t *testing.T) {
	x := reader(t, 3)
	x.Told(nil, math.MaxInt-1, api.ErrGone)
	reads(t, x, 0, math.MaxInt-1, math.MaxInt-1, nil)
	for i, next := range []int{math.MinInt, math.MinInt + 1, -1, 0} {
		x.Told(row(0, i+2), next, api.OK)
		x.Told(nil, next, api.ErrGone)
		x.Late()
		reads(t, x, 0, math.MaxInt-1, math.MaxInt-1, nil)
	}
	x.Told([]api.Match{match(4)}, math.MaxInt, api.OK)
	want := []api.Got{{N: math.MaxInt - 1, M: match(4)}}
	reads(t, x, 0, math.MaxInt, math.MaxInt-1, want)
	x.Told([]api.Match{match(5)}, math.MinInt, api.OK)
	reads(t, x, 1, math.MaxInt, math.MaxInt-1, want)
	x.Told([]api.Match{match(5), match(6)}, math.MinInt, api.ErrGone)
	reads(t, x, 2, math.MaxInt, math.MaxInt-1, want)
	x.Told(nil, math.MaxInt, api.OK)
	reads(t, x, 2, math.MaxInt, math.MaxInt-1, want)
}

func TestReaderIsLate(t *testing.T) {
	for nodes := 1; nodes <= api.MaxNodes; nodes++ {
		x, y := reader(t, nodes), reader(t, nodes)
		for _, z := range []*client.Reader{x, y} {
			z.Told(nil, 1, api.ErrGone)
			z.Told(row(1, 4), 4, api.OK)
		}
		for i := range 3 * nodes {
			reads(t, x, i%nodes, 4, 1, gets(1, 4))
			reads(t, y, i%nodes, 4, 1, gets(1, 4))
			x.Late()
			y.Told(nil, 9, api.ErrDown)
		}
	}
}

// A reader gets what it is told: it does not ask whether matches may be.
func TestAnyMatchesAreGot(t *testing.T) {
	x := reader(t, 1)
	l := []api.Match{{}, {Picks: []int{}}, match(-1, math.MaxInt, 3), match(7, 7)}
	x.Told(l, 4, api.OK)
	reads(t, x, 0, 4, 0, []api.Got{{N: 0}, {N: 1}, {N: 2, M: l[2]}, {N: 3, M: l[3]}})
}

func TestNilReader(t *testing.T) {
	var x *client.Reader
	for _, e := range append(others(), api.OK, api.ErrGone, api.ErrNone) {
		x.Told(nil, 0, e)
		x.Told(row(0, 2), 2, e)
	}
	x.Late()
	if a, ok := x.Ask(); ok || a != (api.Ask{}) {
		t.Errorf("Ask of nil: %v, %v", a, ok)
	}
	if x.At() != 0 || x.Gone() != 0 || len(x.Got()) != 0 {
		t.Errorf("nil: %d, %d, %v", x.At(), x.Gone(), x.Got())
	}
}

// What is handed in and out is not kept.
func TestAReaderSharesNothing(t *testing.T) {
	bytes := []byte("name")
	x := client.NewReader(1, unsafe.String(&bytes[0], 4), 9)
	copy(bytes, "XXXX")
	l := row(0, 3)
	x.Told(l, 3, api.OK)
	for i := range l {
		l[i].Picks[0] = -1
	}
	l[2] = match(8)
	a, b := x.Got(), x.Got()
	a[0].M.Picks[0], a[1].N = -1, 8
	a[2] = api.Got{}
	for _, k := range [][]api.Got{b, x.Got()} {
		if !same(k, gets(0, 3)) {
			t.Errorf("Got was changed: %v", k)
		}
	}
	for i := range b { // no list has room into which another one reaches
		b[i].M.Picks = append(b[i].M.Picks, -1)
	}
	p, _ := x.Ask()
	q, _ := x.Ask()
	if p.Name != "name" || unsafe.StringData(p.Name) == unsafe.StringData(q.Name) {
		t.Errorf("two asks share %q", p.Name)
	}
	if !same(x.Got(), gets(0, 3)) || slices.ContainsFunc(x.Got(), func(g api.Got) bool { return len(g.M.Picks) != 2 }) {
		t.Errorf("Got was changed: %v", x.Got())
	}
}

// Two readers have nothing in common.
func TestReadersAreApart(t *testing.T) {
	x, y := reader(t, 3), reader(t, 3)
	x.Told(row(0, 2), 2, api.OK)
	y.Told(nil, 5, api.ErrGone)
	y.Late()
	reads(t, x, 0, 2, 0, gets(0, 2))
	reads(t, y, 1, 5, 5, nil)
}
