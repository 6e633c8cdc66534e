// Package vset implements sorted sets of variable indices. See shared/doc/03-vset.md.
package vset

import "slices"

// Of returns the elements of l in increasing order without duplicates.
func Of(l ...int) []int {
	return sorted(slices.Clone(l))
}

// sorted brings l, which it overwrites, into canonical form.
func sorted(l []int) []int {
	slices.Sort(l)
	return exact(slices.Compact(l))
}

// exact cuts off the spare capacity, so that no append can write behind a set.
func exact(l []int) []int {
	return l[:len(l):len(l)]
}

// Right reports whether l is strictly increasing.
func Right(l []int) bool {
	for i := 1; i < len(l); i++ {
		if l[i-1] >= l[i] {
			return false
		}
	}
	return true
}

// Has reports whether v is an element of l.
func Has(l []int, v int) bool {
	return slices.Contains(l, v)
}

// Union returns the elements of at least one of the arguments.
func Union(l ...[]int) []int {
	return sorted(slices.Concat(l...))
}

// Meet returns the elements of both a and b.
func Meet(a, b []int) []int {
	return chosen(a, b, true)
}

// Less returns the elements of a that are not in b.
func Less(a, b []int) []int {
	return chosen(a, b, false)
}

// chosen returns the elements of a that are in b (in true) or not in b (in false).
func chosen(a, b []int, in bool) []int {
	other := Of(b...)
	var l []int
	for _, v := range Of(a...) {
		if _, found := slices.BinarySearch(other, v); found == in {
			l = append(l, v)
		}
	}
	return exact(l)
}

// Within reports whether every element of a is an element of b.
func Within(a, b []int) bool {
	return len(Less(a, b)) == 0
}

// Same reports whether a and b have the same elements.
func Same(a, b []int) bool {
	return slices.Equal(Of(a...), Of(b...))
}
