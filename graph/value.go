package graph

import (
	"voussoir/api"
	"voussoir/dyadic"
)

// value returns the value of a term in a state s with a successor n.
type value func(s, n []int) int

// valueOf returns the value of t, a valid term over variables at these places. There may be millions of pairs of states to ask for it, so the term is looked through only once.
func valueOf(t api.Term, places map[string]int) value {
	switch t.Op {
	case api.TNum, api.TBool:
		return func(s, n []int) int { return t.N }
	case api.TName, api.TNext:
		return variable(places[t.Name], t.Op == api.TNext)
	}
	kids := make([]value, len(t.Kids))
	for i, kid := range t.Kids {
		kids[i] = valueOf(kid, places)
	}
	switch t.Op {
	case api.TNot:
		return func(s, n []int) int { return 1 - kids[0](s, n) }
	case api.TIf:
		return func(s, n []int) int { return kids[2-kids[0](s, n)](s, n) }
	}
	op := dyadic.Of(t.Op)
	return func(s, n []int) int {
		r := kids[0](s, n)
		for _, kid := range kids[1:] {
			r = op(r, kid(s, n))
		}
		return r
	}
}

// variable returns the value of the variable at that place in the state or in its successor.
func variable(place int, next bool) value {
	if next {
		return func(s, n []int) int { return n[place] }
	}
	return func(s, n []int) int { return s[place] }
}
