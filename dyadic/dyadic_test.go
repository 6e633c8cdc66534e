package dyadic_test

import (
	"math"
	"testing"

	"voussoir/api"
	"voussoir/dyadic"
	"voussoir/terms"
)

// Each operation answers what the value of a term is.
func TestOf(t *testing.T) {
	for op := api.TAnd; op <= api.TMod; op++ {
		f := dyadic.Of(op)
		lo, hi := -6, 6
		if op <= api.TIff {
			lo, hi = 0, 1
		}
		for a := lo; a <= hi; a++ {
			for b := lo; b <= hi; b++ {
				if op == api.TMod && b <= 0 {
					continue
				}
				kind := api.TNum
				if op <= api.TIff {
					kind = api.TBool
				}
				want, ok := terms.Eval(nil, api.Term{Op: op, Kids: []api.Term{{Op: kind, N: a}, {Op: kind, N: b}}}, nil, nil)
				if got := f(a, b); got != want || !ok {
					t.Errorf("operator %d of %d and %d: %d; want %d, %v", op, a, b, got, want, ok)
				}
			}
		}
	}
	for _, op := range []int{api.TNum, api.TBool, api.TName, api.TNext, api.TNot, api.TIf, 0, -1, 19, math.MaxInt} {
		if dyadic.Of(op) != nil {
			t.Error(op)
		}
	}
}
