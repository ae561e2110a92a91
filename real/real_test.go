package real

import (
	"math"
	"math/big"
	"math/rand"
	"slices"
	"testing"

	"auspice/api"
)

// draws is a row of numbers that is the same at each run.
func draws() *rand.Rand { return rand.New(rand.NewSource(1)) }

var minus0 = math.Copysign(0, -1)

// rungs are real numbers of every sort that are some, in their order.
func rungs() []float64 {
	up := []float64{0, math.SmallestNonzeroFloat64, 2 * math.SmallestNonzeroFloat64, math.Float64frombits(1<<52 - 1), math.Float64frombits(1 << 52),
		0.1, math.Nextafter(1, 0), 1, math.Nextafter(1, 2), 2, 1<<53 - 1, 1 << 53, 1<<53 + 2, 1 << 63, 1 << 64, math.MaxFloat64, math.Inf(1)}
	var l []float64
	for _, f := range slices.Backward(up) {
		l = append(l, math.Copysign(f, -1))
	}
	return append(l, up...)
}

// none are NaNs, of several bits and of both signs.
func none() []float64 {
	var l []float64
	for _, b := range []uint64{0x7ff0000000000001, 0x7ff8000000000000, 0x7ff8000000000001, math.MaxInt64,
		0xfff0000000000001, 0xfff8000000000000, 0xfff8000000000001, math.MaxUint64} {
		l = append(l, math.Float64frombits(b))
	}
	return append(l, math.NaN())
}

// place is where a number of rungs, then of none, stands in the order: all of none stand at one place.
func place(i int) int { return min(i, len(rungs())) }

// some are numbers of any bits, many of them near one another or with one another's bits turned.
func some(n int) []float64 {
	l := append(rungs(), none()...)
	r := draws()
	for range n {
		b := r.Uint64()
		switch f := l[r.Intn(len(l))]; r.Intn(4) {
		case 0:
			b = math.Float64bits(f) + 1
		case 1:
			b = math.Float64bits(-f)
		case 2:
			b = b&(1<<63|1<<52-1) | 0x7ff<<52
		}
		l = append(l, math.Float64frombits(b))
	}
	return l
}

// is tells whether two are the same: one NaN is as good as another one, and -0 and 0 are two.
func is(a, b float64) bool {
	return math.Float64bits(a) == math.Float64bits(b) || math.IsNaN(a) && math.IsNaN(b)
}

// 3.1

func TestRank(t *testing.T) {
	for b, want := range map[uint64]uint64{
		0xfff0000000000000: 0x000fffffffffffff, // minus infinity
		0xffefffffffffffff: 0x0010000000000000,
		0xbff0000000000000: 0x400fffffffffffff, // -1
		0x8000000000000001: 0x7ffffffffffffffe,
		0x8000000000000000: 0x7fffffffffffffff, // -0
		0x0000000000000000: 0x8000000000000000, // 0
		0x0000000000000001: 0x8000000000000001,
		0x3ff0000000000000: 0xbff0000000000000, // 1
		0x7fefffffffffffff: 0xffefffffffffffff,
		0x7ff0000000000000: 0xfff0000000000000, // infinity
	} {
		if r := Rank(math.Float64frombits(b)); r != want {
			t.Errorf("Rank of the bits %x: %x, want %x", b, r, want)
		}
	}
	for _, f := range none() {
		if r := Rank(f); r != math.MaxUint64 {
			t.Errorf("Rank of the NaN %x: %x", math.Float64bits(f), r)
		}
	}
}

func TestLessAndSame(t *testing.T) {
	l := append(rungs(), none()...)
	for i, a := range l {
		for j, b := range l {
			if got, want := Less(a, b), place(i) < place(j); got != want {
				t.Errorf("Less(%v, %v): %v", a, b, got)
			}
			if got, want := Same(a, b), place(i) == place(j); got != want {
				t.Errorf("Same(%v, %v): %v", a, b, got)
			}
		}
	}
}

// 3.2

// ops are the kinds of comparing, and for each whether it holds where a is below, like and above b, and where one is no number.
var ops = []struct {
	op                       int
	below, like, above, none bool
}{
	{api.Eq, false, true, false, false},
	{api.Ne, true, false, true, true},
	{api.Lt, true, false, false, false},
	{api.Le, true, true, false, false},
	{api.Gt, false, false, true, false},
	{api.Ge, false, true, true, false},
	{0, false, false, false, false},
	{7, false, false, false, false},
	{-1, false, false, false, false},
	{math.MinInt, false, false, false, false},
	{math.MaxInt, false, false, false, false},
}

func TestHolds(t *testing.T) {
	l := rungs()
	half := len(l) / 2
	for i, a := range l {
		for j, b := range l {
			d := i - j
			if i >= half-1 && i <= half && j >= half-1 && j <= half { // -0 and 0
				d = 0
			}
			for _, o := range ops {
				want := d < 0 && o.below || d == 0 && o.like || d > 0 && o.above
				if got := Holds(o.op, a, b); got != want {
					t.Errorf("Holds(%d, %v, %v): %v", o.op, a, b, got)
				}
			}
		}
	}
}

func TestHoldsOfNaN(t *testing.T) {
	for _, a := range none() {
		for _, b := range append(rungs(), none()...) {
			for _, o := range ops {
				if Holds(o.op, a, b) != o.none || Holds(o.op, b, a) != o.none {
					t.Errorf("Holds(%d) of %v and %v, either way: %v, %v", o.op, a, b, Holds(o.op, a, b), Holds(o.op, b, a))
				}
			}
		}
	}
}

// 3.3

func TestWhole(t *testing.T) {
	for _, c := range []struct {
		n    int
		want float64
		ok   bool
	}{
		{0, 0, true}, {1, 1, true}, {-1, -1, true}, {123456789, 123456789, true},
		{1<<53 - 1, 1<<53 - 1, true}, {1 << 53, 1 << 53, true}, {1<<53 + 1, 1 << 53, false}, {1<<53 + 2, 1<<53 + 2, true}, {1<<53 + 3, 1<<53 + 4, false},
		{-1<<53 + 1, -1<<53 + 1, true}, {-1 << 53, -1 << 53, true}, {-1<<53 - 1, -1 << 53, false}, {-1<<53 - 3, -1<<53 - 4, false},
		{1<<54 + 1, 1 << 54, false}, {1<<54 + 2, 1 << 54, false}, {1<<54 + 3, 1<<54 + 4, false}, {1<<54 + 6, 1<<54 + 8, false},
		{1 << 62, 1 << 62, true}, {math.MaxInt - 1023, 1<<63 - 1024, true}, {math.MaxInt - 1022, 1<<63 - 1024, false}, {math.MaxInt - 512, 1<<63 - 1024, false},
		{math.MaxInt - 511, 1 << 63, false}, {math.MaxInt - 1, 1 << 63, false}, {math.MaxInt, 1 << 63, false},
		{math.MinInt, -1 << 63, true}, {math.MinInt + 1, -1 << 63, false}, {math.MinInt + 512, -1 << 63, false}, {math.MinInt + 513, -1<<63 + 1024, false},
		{math.MinInt + 1024, -1<<63 + 1024, true},
	} {
		if f, ok := Whole(c.n); !is(f, c.want) || ok != c.ok {
			t.Errorf("Whole(%d): %v, %v, want %v, %v", c.n, f, ok, c.want, c.ok)
		}
	}
}

func TestWholeOfAny(t *testing.T) {
	r := draws()
	for range 20000 {
		n := int(r.Uint64()) >> r.Intn(64)
		want, near := new(big.Float).SetInt64(int64(n)).Float64()
		if f, ok := Whole(n); !is(f, want) || ok != (near == big.Exact) {
			t.Errorf("Whole(%d): %v, %v, want %v, %v", n, f, ok, want, near)
		}
	}
}

func TestPart(t *testing.T) {
	inf, nan := math.Inf(1), math.NaN()
	for _, c := range []struct {
		p, q int
		want float64
	}{
		{1, 2, 0.5}, {-1, 2, -0.5}, {1, -2, -0.5}, {-1, -2, 0.5}, {1, 3, 1.0 / 3}, {1, 10, 0.1}, {7, 7, 1}, {6, 1, 6},
		{1, 0, inf}, {-1, 0, -inf}, {math.MaxInt, 0, inf}, {math.MinInt, 0, -inf}, {0, 0, nan},
		{0, 1, 0}, {0, -1, minus0}, {0, math.MaxInt, 0}, {0, math.MinInt, minus0},
		{math.MinInt, -1, 1 << 63}, {math.MinInt, 1, -1 << 63}, {math.MaxInt, math.MinInt, -1}, {math.MaxInt, math.MaxInt, 1}, {1, math.MinInt, -0x1p-63},
		{1<<53 + 1, 1, 1 << 53}, {1<<53 + 1, 1<<53 + 1, 1}, {1, 1<<53 + 1, 0x1p-53},
		{1<<53 + 1, 3, 3002399751580330.5}, // whole numbers are rounded first: else it were 3002399751580331
	} {
		if f := Part(c.p, c.q); !is(f, c.want) {
			t.Errorf("Part(%d, %d): %v, want %v", c.p, c.q, f, c.want)
		}
	}
}

func TestPartOfAny(t *testing.T) {
	r := draws()
	for range 20000 {
		p, q := int(r.Uint64())>>r.Intn(63), int(r.Uint64())>>r.Intn(63)|1
		a, _ := new(big.Float).SetInt64(int64(p)).Float64()
		b, _ := new(big.Float).SetInt64(int64(q)).Float64()
		want, _ := new(big.Rat).Quo(new(big.Rat).SetFloat64(a), new(big.Rat).SetFloat64(b)).Float64()
		if p == 0 && q < 0 {
			want = minus0
		}
		if f := Part(p, q); !is(f, want) {
			t.Errorf("Part(%d, %d): %v, want %v", p, q, f, want)
		}
	}
}

// 3.4

func TestEnds(t *testing.T) {
	inf, nan, least := math.Inf(1), math.NaN(), math.SmallestNonzeroFloat64
	for _, c := range []struct {
		l          []float64
		from, upTo float64
		n          int
	}{
		{nil, 0, 0, 0}, {[]float64{}, 0, 0, 0}, {none(), 0, 0, 0},
		{[]float64{5}, 5, 5, 1}, {[]float64{-5}, -5, -5, 1}, {[]float64{0}, 0, 0, 1}, {[]float64{minus0}, minus0, minus0, 1},
		{[]float64{0, minus0}, minus0, 0, 2}, {[]float64{minus0, 0}, minus0, 0, 2}, {[]float64{minus0, least}, minus0, least, 2}, {[]float64{-least, 0}, -least, 0, 2},
		{[]float64{1, 2, 3}, 1, 3, 3}, {[]float64{3, 2, 1}, 1, 3, 3}, {[]float64{2, 3, 1, 3, 1}, 1, 3, 5}, {[]float64{-1, -2, -3}, -3, -1, 3},
		{[]float64{nan, 7}, 7, 7, 1}, {[]float64{7, nan}, 7, 7, 1}, {append(none(), -3, nan, 4), -3, 4, 2},
		{[]float64{math.Float64frombits(math.MaxUint64), -1, nan}, -1, -1, 1},
		{[]float64{inf}, inf, inf, 1}, {[]float64{-inf}, -inf, -inf, 1}, {[]float64{1, inf, -inf, nan}, -inf, inf, 3},
		{rungs(), -inf, inf, len(rungs())},
	} {
		l := slices.Clone(c.l)
		if from, upTo, n := Ends(l); !is(from, c.from) || !is(upTo, c.upTo) || n != c.n {
			t.Errorf("Ends(%v): %v, %v, %d, want %v, %v, %d", c.l, from, upTo, n, c.from, c.upTo, c.n)
		}
		if !slices.EqualFunc(l, c.l, func(a, b float64) bool { return math.Float64bits(a) == math.Float64bits(b) }) {
			t.Errorf("Ends changed %v to %v", c.l, l)
		}
	}
}

func TestEndsOfAny(t *testing.T) {
	all, r := some(2000), draws()
	for range 2000 {
		var l, sorted []float64
		for range r.Intn(8) {
			f := all[r.Intn(len(all))]
			l = append(l, f)
			if !math.IsNaN(f) {
				sorted = append(sorted, f)
			}
		}
		// The library puts -0 and 0 at one place, so the sign parts them.
		slices.SortFunc(sorted, func(a, b float64) int {
			if a == 0 && b == 0 && math.Signbit(a) != math.Signbit(b) {
				return int(math.Copysign(1, a))
			}
			return big.NewFloat(a).Cmp(big.NewFloat(b))
		})
		var least, most float64
		if len(sorted) > 0 {
			least, most = sorted[0], sorted[len(sorted)-1]
		}
		if from, upTo, n := Ends(l); !is(from, least) || !is(upTo, most) || n != len(sorted) {
			t.Errorf("Ends(%v): %v, %v, %d, want %v, %v, %d", l, from, upTo, n, least, most, len(sorted))
		}
	}
}

// 3.5

func TestTheOrderIsTotal(t *testing.T) {
	l, r := some(5000), draws()
	for range 50000 {
		a, b, c := l[r.Intn(len(l))], l[r.Intn(len(l))], l[r.Intn(len(l))]
		if count(Less(a, b), Same(a, b), Less(b, a)) != 1 {
			t.Errorf("%v and %v: less %v, same %v, more %v", a, b, Less(a, b), Same(a, b), Less(b, a))
		}
		if Less(a, b) && Less(b, c) && !Less(a, c) || Same(a, b) && Less(a, c) != Less(b, c) {
			t.Errorf("%v, %v and %v stand in no order", a, b, c)
		}
		if Same(a, b) != is(a, b) {
			t.Errorf("Same(%v, %v): %v", a, b, Same(a, b))
		}
	}
}

func TestTheOrderIsThatOfTheNumbers(t *testing.T) {
	l, r := some(5000), draws()
	for range 50000 {
		a, b := l[r.Intn(len(l))], l[r.Intn(len(l))]
		if math.IsNaN(a) || math.IsNaN(b) {
			continue
		}
		d := big.NewFloat(a).Cmp(big.NewFloat(b))
		if d != 0 && Less(a, b) != (d < 0) || Holds(api.Lt, a, b) != (d < 0) || Holds(api.Eq, a, b) != (d == 0) || Holds(api.Gt, a, b) != (d > 0) {
			t.Errorf("%v and %v: Less %v, Lt %v, Eq %v, Gt %v", a, b, Less(a, b), Holds(api.Lt, a, b), Holds(api.Eq, a, b), Holds(api.Gt, a, b))
		}
		if count(Holds(api.Lt, a, b), Holds(api.Eq, a, b), Holds(api.Gt, a, b)) != 1 {
			t.Errorf("of Lt, Eq and Gt not just one holds of %v and %v", a, b)
		}
	}
}

// count is how many hold.
func count(l ...bool) (n int) {
	for _, b := range l {
		if b {
			n++
		}
	}
	return n
}
