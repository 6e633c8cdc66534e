package graph

import "sort"

// sorted is a list in increasing order.
type sorted[T any] struct {
	items   []T
	compare func(a, b T) int
}

// find returns the index of x, or -1.
func (l sorted[T]) find(x T) int {
	i := sort.Search(len(l.items), search[T]{l, x}.reaches)
	if i < len(l.items) && l.compare(l.items[i], x) == 0 {
		return i
	}
	return -1
}

// search is the search for an element.
type search[T any] struct {
	in     sorted[T]
	wanted T
}

// reaches reports whether the element at index i is not below the one that is wanted.
func (s search[T]) reaches(i int) bool {
	return s.in.compare(s.in.items[i], s.wanted) >= 0
}
