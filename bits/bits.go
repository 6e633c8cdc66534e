// Package bits implements Boolean assignments as bit vectors. See shared/doc/02-bits.md.
package bits

import (
	"iter"

	"voussoir/api"
)

const (
	maxBits = 64   // those of a number
	maxText = 4096 // bytes
)

// Of returns the many lowest bits of n, the least significant bit first.
func Of(n uint64, many int) []bool {
	l := make([]bool, min(max(many, 0), maxBits))
	for i := range l {
		l[i] = n>>i&1 == 1
	}
	return l
}

// Num returns the number whose bits are the first 64 elements of l.
func Num(l []bool) uint64 {
	n := uint64(0)
	for i := range min(len(l), maxBits) {
		if l[i] {
			n |= 1 << i
		}
	}
	return n
}

// Next returns the list of the same length that represents the next number.
func Next(l []bool) []bool {
	next := make([]bool, len(l))
	copy(next, l)
	for i := range next {
		next[i] = !next[i]
		if next[i] {
			break
		}
	}
	return next
}

// Less reports whether a comes before b in lexicographic order.
func Less(a, b []bool) bool {
	for i := range min(len(a), len(b)) {
		if a[i] != b[i] {
			return b[i]
		}
	}
	return len(a) < len(b)
}

// Text returns one byte for each element: 1 for true, 0 for false.
func Text(l []bool) string {
	text := make([]byte, len(l))
	for i, yes := range l {
		text[i] = '0'
		if yes {
			text[i] = '1'
		}
	}
	return string(text)
}

// Parse returns the list whose Text is s.
func Parse(s string) (l []bool, e api.Errno) {
	if len(s) > maxText {
		return nil, api.ErrLong
	}
	l = make([]bool, len(s))
	for i := range len(s) {
		if s[i] != '0' && s[i] != '1' {
			return nil, api.ErrForm
		}
		l[i] = s[i] == '1'
	}
	return l, api.OK
}

// All returns an iterator over all lists of length many, in the order of their numbers.
func All(many int) iter.Seq[[]bool] {
	many = min(max(many, 0), api.MaxTable)
	return func(yield func([]bool) bool) {
		for n := range below(1 << many) {
			if !yield(Of(n, many)) {
				return
			}
		}
	}
}

// below counts from 0 to end - 1.
func below(end uint64) iter.Seq[uint64] {
	return func(yield func(uint64) bool) {
		for n := range end {
			if !yield(n) {
				return
			}
		}
	}
}
