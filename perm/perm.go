// Package perm implements permutations and adjacent transpositions. See shared/doc/05-perm.md.
package perm

import (
	"slices"

	"voussoir/api"
)

// Right reports whether l is an order.
func Right(l []int) bool {
	var usual [api.MaxVars]bool
	seen := usual[:]
	if len(l) > len(seen) {
		seen = make([]bool, len(l))
	}
	for _, v := range l {
		if v < 0 || v >= len(l) || seen[v] {
			return false
		}
		seen[v] = true
	}
	return true
}

// Ident returns 0, 1, .., n - 1.
func Ident(n int) []int {
	l := make([]int, min(max(n, 0), api.MaxVars))
	for i := range l {
		l[i] = i
	}
	return l
}

// Inverse returns, for an order, the list that has at index v the index of v in l.
func Inverse(l []int) []int {
	if !Right(l) {
		return nil
	}
	inverse := make([]int, len(l))
	for i, v := range l {
		inverse[v] = i
	}
	return inverse
}

// clone returns a copy of l in memory of its own.
func clone(l []int) []int {
	c := make([]int, len(l))
	copy(c, l)
	return c
}

// Swap returns l with the elements at indices i and i + 1 exchanged.
func Swap(l []int, i int) []int {
	c := clone(l)
	if i >= 0 && i < len(c)-1 {
		c[i], c[i+1] = c[i+1], c[i]
	}
	return c
}

// Move returns l with the element at index from moved to index to.
func Move(l []int, from, to int) []int {
	c := clone(l)
	if from < 0 || from >= len(c) || to < 0 || to >= len(c) {
		return c
	}
	v := c[from]
	if from < to {
		copy(c[from:to], c[from+1:])
	} else {
		copy(c[to+1:from+1], c[to:])
	}
	c[to] = v
	return c
}

// Turn returns l in reverse order.
func Turn(l []int) []int {
	c := clone(l)
	slices.Reverse(c)
	return c
}

// Steps returns the indices of the Swaps that lead from a to b.
func Steps(a, b []int) (l []int, e api.Errno) {
	if !Right(a) || !Right(b) {
		return nil, api.ErrArg
	}
	if len(a) != len(b) {
		return nil, api.ErrForm
	}
	rest := clone(a) // what stands behind the elements of b that are in their places
	for i, v := range b {
		from := slices.Index(rest, v)
		rest = slices.Delete(rest, from, from+1)
		for at := i + from; at > i; at-- {
			l = append(l, at-1)
		}
	}
	return l, api.OK
}
