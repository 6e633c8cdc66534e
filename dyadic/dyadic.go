// Package dyadic has the operations on two values by the operators of terms.
package dyadic

import "voussoir/api"

// Of returns what an operator does to the values of two Kids, the Boolean ones of which are 0 and 1. Conjunction and disjunction of more Kids are those of two, applied again and again. For an operator that doesn't take two Kids it returns nil.
func Of(op int) func(a, b int) int {
	switch op {
	case api.TAnd:
		return func(a, b int) int { return min(a, b) }
	case api.TOr:
		return func(a, b int) int { return max(a, b) }
	case api.TAdd:
		return func(a, b int) int { return a + b }
	case api.TSub:
		return func(a, b int) int { return a - b }
	case api.TMul:
		return func(a, b int) int { return a * b }
	case api.TMod:
		return func(a, b int) int { return (a%b + b) % b }
	}
	holds := relation(op)
	if holds == nil {
		return nil
	}
	return func(a, b int) int {
		if holds(a, b) {
			return 1
		}
		return 0
	}
}

// relation returns what an operator asks about two values, if it asks.
func relation(op int) func(a, b int) bool {
	switch op {
	case api.TEq, api.TIff:
		return func(a, b int) bool { return a == b }
	case api.TNe:
		return func(a, b int) bool { return a != b }
	case api.TLt:
		return func(a, b int) bool { return a < b }
	case api.TLe, api.TImp: // for 0 and 1 the two are one
		return func(a, b int) bool { return a <= b }
	}
	return nil
}
