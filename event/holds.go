package event

import (
	"cmp"

	"auspice/api"
	"auspice/real"
)

// standing is how one value stands to another one.
type standing int

const (
	none   standing = iota // one of them is no value
	unlike                 // they have no order
	below
	alike
	above
)

// Holds compares two values.
func Holds(op int, a, b api.Value) bool {
	s := stand(a, b)
	if s == none {
		return false
	}
	switch op {
	case api.Eq:
		return s == alike
	case api.Ne:
		return s != alike
	case api.Lt:
		return s == below
	case api.Le:
		return s == below || s == alike
	case api.Gt:
		return s == above
	case api.Ge:
		return s == above || s == alike
	}
	return false
}

// stand is how a stands to b.
func stand(a, b api.Value) standing {
	switch {
	case !kind(a) || !kind(b):
		return none
	case a.Kind == api.Text && b.Kind == api.Text:
		return order(a.S, b.S)
	case a.Kind == api.Text || b.Kind == api.Text:
		return unlike
	case a.Kind == api.Whole && b.Kind == api.Whole:
		return order(a.N, b.N)
	case a.Kind == api.Whole:
		return mixed(a.N, b.F)
	case b.Kind == api.Whole:
		return turned(mixed(b.N, a.F))
	}
	return order(a.F, b.F)
}

// kind tells whether a value has a kind.
func kind(v api.Value) bool {
	return v.Kind == api.Whole || v.Kind == api.Real || v.Kind == api.Text
}

// order is how a stands to b, both of one type. What is no number is in none of the three ways.
func order[T cmp.Ordered](a, b T) standing {
	switch {
	case a < b:
		return below
	case a == b:
		return alike
	case a > b:
		return above
	}
	return unlike
}

// mixed is how a whole number stands to a real one. Rounding keeps the order of what it does not make alike; of what it does, the whole numbers tell.
func mixed(n int, f float64) standing {
	near, exact := real.Whole(n)
	s := order(near, f)
	if s != alike || exact {
		return s
	}
	if f >= 1<<63 { // no whole number is as great
		return below
	}
	return order(n, int(f))
}

// turned is how b stands to a, if a stands to b like that.
func turned(s standing) standing {
	switch s {
	case below:
		return above
	case above:
		return below
	}
	return s
}
