package sample_test

import (
	"math/rand"
	"slices"
	"testing"

	"voussoir/api"
	"voussoir/forms"
	"voussoir/sample"
	"voussoir/terms"
	"voussoir/typing"
)

// What is made is valid, and nothing that is to occur is missing.
func TestWhatIsMade(t *testing.T) {
	r := rand.New(rand.NewSource(1))
	ops, kinds, path := map[int]int{}, map[string]int{}, map[int]int{}
	for range 3000 {
		m := sample.Module(r)
		if p, e := typing.Check(m); e != api.OK {
			t.Fatal(m, p, e)
		}
		if n, ok := typing.States(m); !ok || n > 64 {
			t.Fatal(m.Vars, n)
		}
		for kind, l := range map[string][]api.Term{"init": m.Init, "invar": m.Invar, "trans": m.Trans, "fair": m.Fair} {
			kinds[kind] += len(l)
		}
		kinds["vars"] += len(m.Vars)
		kinds["defs"] += len(m.Defs)
		kinds["next"] += len(m.Next)
		truth := r.Intn(2) == 0
		term := sample.Term(r, m.Vars, m.Vars, truth, 5)
		if y, e := terms.Type(m.Vars, term, true); e != api.OK || y.Bool != truth || terms.Deep(term) > 5 {
			t.Fatal(term, y, e)
		}
		count(term, ops)
		f := sample.Form(r, m.Vars, 4)
		if e := forms.Check(f); e != api.OK || forms.Deep(f) > 4 || !typed(m.Vars, f) {
			t.Fatal(f, e)
		}
		for _, part := range forms.Parts(f) {
			path[part.Op]++
		}
	}
	for op := api.FTerm; op <= api.FAU; op++ {
		if path[op] < 300 {
			t.Errorf("operator %d occurs %d times in formulas", op, path[op])
		}
	}
	for op := api.TNum; op <= api.TIf; op++ {
		if ops[op] < 100 {
			t.Errorf("operator %d occurs %d times", op, ops[op])
		}
	}
	for kind, n := range kinds {
		if n < 500 {
			t.Errorf("there are %d of %s", n, kind)
		}
	}
}

// typed reports whether all terms of a formula are Boolean.
func typed(vars []api.Var, f api.Form) bool {
	if f.Op == api.FTerm {
		y, e := terms.Type(vars, f.E, false)
		return e == api.OK && y.Bool
	}
	return !slices.ContainsFunc(f.Kids, func(kid api.Form) bool { return !typed(vars, kid) })
}

// count counts the operators of t.
func count(t api.Term, ops map[int]int) {
	ops[t.Op]++
	for _, kid := range t.Kids {
		count(kid, ops)
	}
}

func TestVars(t *testing.T) {
	r := rand.New(rand.NewSource(2))
	for range 3000 {
		most, span, bits := r.Intn(6), 1+r.Intn(20), r.Intn(12)
		vars := sample.Vars(r, most, span, bits)
		if _, e := typing.Vars(vars); e != api.OK || len(vars) > most || typing.Bits(api.Module{Vars: vars}) > bits {
			t.Fatal(vars, e)
		}
		for _, v := range vars {
			if !v.Bool && typing.Span(v) > span {
				t.Fatal(v)
			}
		}
	}
}

// The chain is a valid model. Its states are too many to be enumerated; the tests that use it come along all of them.
func TestChain(t *testing.T) {
	m := sample.Model(t, sample.Chain)
	if p, e := typing.Check(m); e != api.OK {
		t.Fatal(p, e)
	}
	if n, ok := typing.States(m); n != 2*64*64 || !ok {
		t.Error(n, ok)
	}
}
