package agenda

import (
	"cmp"

	"auspice/api"
)

// row is items as the library's heap keeps them: the first one is at the front, the others are not in order.
type row []api.Item

// Len is how many there are.
func (r row) Len() int { return len(r) }

// Less tells whether one stands ahead of another one.
func (r row) Less(i, j int) bool { return order(r[i], r[j]) < 0 }

// Swap changes the places of two.
func (r row) Swap(i, j int) { r[i], r[j] = r[j], r[i] }

// Push puts an item at the end.
func (r *row) Push(x any) { *r = append(*r, x.(api.Item)) }

// Pop takes the item at the end.
func (r *row) Pop() any {
	end := len(*r) - 1
	x := (*r)[end]
	*r = (*r)[:end]
	return x
}

// order is how two items stand: below 0, if x is ahead of y. No difference is taken, as it could go round.
func order(x, y api.Item) int {
	return cmp.Or(cmp.Compare(x.At, y.At), cmp.Compare(x.ID, y.ID))
}
