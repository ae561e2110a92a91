package council_test

import (
	"math"
	"math/rand"
	"slices"
	"testing"

	"auspice/api"
	"auspice/council"
)

// set is a mask's nodes as a set, by the words of the chapter: a number beyond 0 to 127 has none.
func set(mask int) map[int]bool {
	s := map[int]bool{}
	if mask < 0 || mask > 127 {
		return s
	}
	for node, bit := 0, 1; node < 7; node, bit = node+1, bit*2 {
		if mask/bit%2 == 1 {
			s[node] = true
		}
	}
	return s
}

// common are how many nodes two sets have in common.
func common(a, b map[int]bool) int {
	n := 0
	for i := range a {
		if b[i] {
			n++
		}
	}
	return n
}

// masks are all masks, and numbers that are none.
func masks() []int {
	l := []int{-1, -2, -127, -128, 128, 129, 255, 1 << 20, 1<<32 | 7, 1<<40 | 127, math.MinInt, math.MinInt | 7, math.MaxInt}
	for m := range 128 {
		l = append(l, m)
	}
	return l
}

// 15.1

func TestExamples(t *testing.T) {
	if !council.Enough(7, 3) || council.Enough(7, 4) || !council.Near(3, 7) || council.Near(3, 5) {
		t.Error("the examples of Enough and Near")
	}
	for _, rest := range []int{0, 9, -9} {
		if n := council.Reached(7, [7]int{5, 1, 3, rest, rest, rest, rest}); n != 3 {
			t.Errorf("Reached: %d, want 3", n)
		}
	}
}

func TestNodes(t *testing.T) {
	for _, m := range masks() {
		s := set(m)
		var want []int
		for i := range 7 {
			if s[i] {
				want = append(want, i)
			}
		}
		if l := council.Nodes(m); !slices.Equal(l, want) {
			t.Errorf("Nodes(%d): %v, want %v", m, l, want)
		}
		if n := council.Size(m); n != len(want) {
			t.Errorf("Size(%d): %d, want %d", m, n, len(want))
		}
		for _, i := range []int{0, 1, 2, 3, 4, 5, 6, -1, -7, -64, 7, 8, 63, 64, 71, math.MinInt, math.MaxInt} {
			if has := council.Has(m, i); has != s[i] {
				t.Errorf("Has(%d, %d): %v", m, i, has)
			}
		}
	}
	if l := council.Nodes(127); &l[0] == &council.Nodes(127)[0] {
		t.Error("two answers share memory")
	}
}

func TestEnough(t *testing.T) {
	for _, m := range masks() {
		for _, who := range masks() {
			a, b := set(m), set(who)
			want := len(a) > 0 && 2*common(a, b) > len(a)
			if is := council.Enough(m, who); is != want {
				t.Errorf("Enough(%d, %d): %v", m, who, is)
			}
		}
	}
}

// 15.2

func TestNear(t *testing.T) {
	for _, m := range masks() {
		for _, other := range masks() {
			a, b := set(m), set(other)
			n := common(a, b)
			more := len(a) == n && len(b)-n <= 1 || len(b) == n && len(a)-n <= 1
			want := len(a) > 0 && len(b) > 0 && more
			if is := council.Near(m, other); is != want {
				t.Errorf("Near(%d, %d): %v", m, other, is)
			}
		}
	}
}

// holds tells whether more than half of a mask's nodes have values that a number is not above.
func holds(mask, n int, values [api.MaxNodes]int) bool {
	s, reached := set(mask), 0
	for i := range s {
		if n <= values[i] {
			reached++
		}
	}
	return 2*reached > len(s)
}

// 15.3: what is Reached, and no more than it, more than half have reached.
func TestReached(t *testing.T) {
	r := rand.New(rand.NewSource(15))
	for _, m := range masks() {
		for k := range 200 {
			var values [api.MaxNodes]int
			for i := range values {
				switch k % 4 {
				case 0:
					values[i] = r.Intn(5)
				case 1:
					values[i] = r.Intn(1000)
				case 2:
					values[i] = r.Intn(11) - 5
				default:
					values[i] = []int{math.MinInt, math.MinInt + 1, -1, 0, 1, api.MaxIndex, math.MaxInt}[r.Intn(7)]
				}
			}
			was := values
			n := council.Reached(m, values)
			if values != was {
				t.Fatal("the values are changed")
			}
			if len(set(m)) == 0 {
				if n != 0 {
					t.Errorf("Reached(%d, %v): %d, want 0", m, values, n)
				}
				continue
			}
			if !holds(m, n, values) || n < math.MaxInt && holds(m, n+1, values) {
				t.Errorf("Reached(%d, %v): %d", m, values, n)
			}
		}
	}
}

// 15.3: two majorities of masks that are near have a node in common, which is in one of the masks.
func TestMajoritiesMeet(t *testing.T) {
	for a := range 128 {
		for b := range 128 {
			if !council.Near(a, b) {
				continue
			}
			for who := range 128 {
				if !council.Enough(a, who) {
					continue
				}
				for whom := range 128 {
					if council.Enough(b, whom) && council.Size(who&whom&(a|b)) == 0 {
						t.Fatalf("%d and %d are enough of %d and %d, and have no node in common", who, whom, a, b)
					}
				}
			}
		}
	}
}
