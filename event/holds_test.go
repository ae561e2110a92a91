package event

import (
	"cmp"
	"math"
	"math/big"
	"slices"
	"strings"
	"testing"

	"auspice/api"
)

// ops are all kinds of comparing.
func ops() []int { return []int{api.Eq, api.Ne, api.Lt, api.Le, api.Gt, api.Ge} }

// holding are the kinds of comparing that hold of a and b.
func holding(a, b api.Value) (l []int) {
	for _, op := range ops() {
		if Holds(op, a, b) {
			l = append(l, op)
		}
	}
	return l
}

// asked are those that ought to hold, if a is below (-1), like (0) or above (1) b.
func asked(way int) []int {
	switch way {
	case -1:
		return []int{api.Ne, api.Lt, api.Le}
	case 0:
		return []int{api.Eq, api.Le, api.Ge}
	}
	return []int{api.Ne, api.Gt, api.Ge}
}

// stands fails, if a does not stand to b, and b to a, as it ought to.
func stands(t *testing.T, a, b api.Value, way int) {
	t.Helper()
	if l := holding(a, b); !slices.Equal(l, asked(way)) {
		t.Errorf("of %v and %v: %v, want %v", a, b, l, asked(way))
	}
	if l := holding(b, a); !slices.Equal(l, asked(-way)) {
		t.Errorf("of %v and %v: %v, want %v", b, a, l, asked(-way))
	}
}

// wholes are whole numbers at the edges of what a real one can tell, and their neighbours.
func wholes() []int {
	l := []int{0, 1, -1, 2, 3, math.MaxInt, math.MaxInt - 1, math.MaxInt - 511, math.MaxInt - 512, math.MaxInt - 1023, math.MinInt, math.MinInt + 1, math.MinInt + 512, math.MinInt + 1024}
	for k := 50; k < 63; k++ {
		for d := -3; d <= 3; d++ {
			l = append(l, 1<<k+d, -1<<k+d)
		}
	}
	r := draws()
	for range 100 {
		l = append(l, int(r.Uint64())>>r.Intn(64))
	}
	return l
}

// reals are real numbers of every sort but NaN, among them those next to the whole ones.
func reals() []float64 {
	l := []float64{0, math.Copysign(0, -1), 0.5, -0.5, 1, -1, 1.5, 2.5, 5e-324, -5e-324, math.MaxFloat64, -math.MaxFloat64, math.Inf(1), math.Inf(-1)}
	for _, n := range wholes() {
		f := float64(n)
		l = append(l, f, math.Nextafter(f, math.Inf(1)), math.Nextafter(f, math.Inf(-1)))
	}
	return l
}

// nans are numbers that are none.
func nans() []api.Value {
	return []api.Value{number64(math.NaN()), number64(math.Float64frombits(0x7ff0000000000001)), number64(math.Float64frombits(math.MaxUint64))}
}

// exact is how two numbers stand, without rounding.
func exact(n int, f float64) int {
	if math.IsInf(f, 0) {
		return cmp.Compare(0, f)
	}
	return new(big.Rat).SetInt64(int64(n)).Cmp(new(big.Rat).SetFloat64(f))
}

// 8.3

func TestExamples(t *testing.T) {
	if !Holds(api.Gt, whole(1<<53+1), number64(1<<53)) || !Holds(api.Eq, whole(1), number64(1)) || !Holds(api.Ne, nans()[0], nans()[0]) || Holds(api.Le, nans()[0], whole(1)) {
		t.Errorf("an example of the chapter does not hold")
	}
}

func TestWholeNumbers(t *testing.T) {
	for _, a := range wholes() {
		for _, b := range wholes() {
			stands(t, whole(a), whole(b), cmp.Compare(a, b))
		}
	}
}

func TestRealNumbers(t *testing.T) {
	stands(t, number64(math.Copysign(0, -1)), number64(0), 0)
	l := reals()[:60]
	for _, a := range l {
		for _, b := range l {
			stands(t, number64(a), number64(b), cmp.Compare(a, b))
		}
	}
}

func TestWholeAndRealNumbers(t *testing.T) {
	for _, n := range wholes() {
		for _, f := range reals() {
			stands(t, whole(n), number64(f), exact(n, f))
		}
	}
	stands(t, whole(math.MaxInt), number64(1<<63), -1)
	stands(t, whole(math.MinInt), number64(-1<<63), 0)
	stands(t, whole(0), number64(math.Copysign(0, -1)), 0)
	stands(t, whole(1<<53+1), number64(1<<53), 1)
	stands(t, whole(-1<<53-1), number64(-1<<53), -1)
}

func TestTextsStandAsStrings(t *testing.T) {
	l := []string{"", "\x00", "0", "A", "a", "a\x00", "aa", "ab", "b", "\x7f", "\x80", "ä", "\xff", "\xff\xff", strings.Repeat("a", 65)}
	for _, a := range l {
		for _, b := range l {
			stands(t, text(a), text(b), cmp.Compare(a, b))
		}
	}
}

func TestUnlike(t *testing.T) {
	numbers := append(nans(), whole(0), whole(1), whole(1<<53+1), whole(math.MaxInt), whole(math.MinInt+1), number64(0), number64(1), number64(math.Inf(1)))
	for _, a := range nans() {
		for _, b := range numbers {
			for _, l := range [][]int{holding(a, b), holding(b, a)} {
				if !slices.Equal(l, []int{api.Ne}) {
					t.Errorf("of %v and %v: %v", a, b, l)
				}
			}
		}
	}
	for _, a := range []api.Value{text(""), text("1"), text("NaN")} {
		for _, b := range numbers {
			for _, l := range [][]int{holding(a, b), holding(b, a)} {
				if !slices.Equal(l, []int{api.Ne}) {
					t.Errorf("of %v and %v: %v", a, b, l)
				}
			}
		}
	}
}

func TestNoComparing(t *testing.T) {
	some := append(nans(), whole(1), whole(2), number64(1), text(""), text("a"))
	for _, a := range some {
		for _, b := range some {
			for _, op := range []int{0, -1, 7, 8, math.MaxInt, math.MinInt} {
				if Holds(op, a, b) {
					t.Errorf("Holds(%d, %v, %v): true", op, a, b)
				}
			}
		}
	}
	for _, k := range []int{0, -1, 4, math.MaxInt, math.MinInt} {
		none := api.Value{Kind: k, N: 1, F: 1, S: "a"}
		for _, b := range append(some, none, api.Value{Kind: k}, api.Value{}) {
			if l := slices.Concat(holding(none, b), holding(b, none)); l != nil {
				t.Errorf("of %v and %v: %v", none, b, l)
			}
		}
	}
}

// What a value's kind does not name does not count.
func TestOnlyWhatTheKindNamesCounts(t *testing.T) {
	stands(t, api.Value{Kind: api.Whole, N: 1, F: 9, S: "z"}, api.Value{Kind: api.Whole, N: 2, F: 1, S: "a"}, -1)
	stands(t, api.Value{Kind: api.Real, N: 9, F: 1, S: "z"}, api.Value{Kind: api.Real, N: 1, F: 2, S: "a"}, -1)
	stands(t, api.Value{Kind: api.Text, N: 9, F: 9, S: "a"}, api.Value{Kind: api.Text, N: 1, F: math.NaN(), S: "b"}, -1)
	stands(t, api.Value{Kind: api.Whole, N: 1, F: math.NaN()}, api.Value{Kind: api.Real, N: 9, F: 2}, -1)
}

// 8.4: these stand as an order.

func TestAnOrder(t *testing.T) {
	var numbers []api.Value
	for i, n := range wholes() {
		if i%3 == 0 {
			numbers = append(numbers, whole(n))
		}
	}
	for i, f := range reals() {
		if i%9 == 0 {
			numbers = append(numbers, number64(f))
		}
	}
	for _, a := range numbers {
		for _, b := range numbers {
			n := 0
			for _, op := range []int{api.Lt, api.Eq, api.Gt} {
				if Holds(op, a, b) {
					n++
				}
			}
			if n != 1 {
				t.Fatalf("of %v and %v %d hold of below, like and above", a, b, n)
			}
			if !Holds(api.Le, a, b) {
				continue
			}
			for _, c := range numbers {
				if Holds(api.Le, b, c) && !Holds(api.Le, a, c) {
					t.Fatalf("%v, %v, %v do not stand in an order", a, b, c)
				}
			}
		}
	}
}
