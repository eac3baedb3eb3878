package link

import "slices"

// shelf keeps things, the newest first, as long as there is room for what they weigh together.
type shelf[T any] struct {
	weigh func(T) int
	room  int // what is left of the bound
	kept  []T
}

func newShelf[T any](bound int, weigh func(T) int) shelf[T] {
	return shelf[T]{weigh: weigh, room: bound}
}

// put puts a thing ahead of the others. It writes to a new list, never to the old one: so a copy of a shelf can be tried out, and dropped.
func (s *shelf[T]) put(thing T) {
	all := append([]T{thing}, s.kept...)
	s.room -= s.weigh(thing)
	for s.room < 0 {
		oldest := len(all) - 1
		s.room += s.weigh(all[oldest])
		all = slices.Delete(all, oldest, oldest+1)
	}
	s.kept = all
}
