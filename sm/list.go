package sm

import (
	"cmp"
	"iter"
	"slices"
)

// list is things by their names, which rise.
type list[T any] struct {
	rows []row[T]
}

// row is a name, and what has it.
type row[T any] struct {
	name  string
	thing T
}

// size is how many things there are.
func (l *list[T]) size() int {
	return len(l.rows)
}

// get is the thing of a name, if there is one.
func (l *list[T]) get(name string) (thing T, there bool) {
	i, there := l.find(name)
	if !there {
		return thing, false
	}
	return l.rows[i].thing, true
}

// put lays a thing of a new name at its place.
func (l *list[T]) put(name string, thing T) {
	i, _ := l.find(name)
	l.rows = slices.Insert(l.rows, i, row[T]{name: name, thing: thing})
}

// drop lets the thing of a name go, if there is one.
func (l *list[T]) drop(name string) bool {
	i, there := l.find(name)
	if there {
		l.rows = slices.Delete(l.rows, i, i+1)
	}
	return there
}

// all yields the names and their things.
func (l *list[T]) all() iter.Seq2[string, T] {
	return func(yield func(string, T) bool) {
		for _, r := range l.rows {
			if !yield(r.name, r.thing) {
				return
			}
		}
	}
}

// find is where a name stands, or would stand, and whether it is there.
func (l *list[T]) find(name string) (place int, there bool) {
	return slices.BinarySearchFunc(l.rows, name, func(r row[T], name string) int { return cmp.Compare(r.name, name) })
}
