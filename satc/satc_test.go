package satc_test

import (
	"math"
	"math/bits"
	"math/rand"
	"slices"
	"testing"

	"voussoir/api"
	"voussoir/cnt"
	"voussoir/dd"
	"voussoir/satc"
	"voussoir/trial"
)

func no(v int) api.Lit  { return api.Lit{Var: v} }
func yes(v int) api.Lit { return api.Lit{Var: v, Yes: true} }

// counts returns a check that a call has answered that number.
func counts(t trial.Test, about string, want cnt.Nat) func(n cnt.Nat, e api.Errno) {
	return func(n cnt.Nat, e api.Errno) {
		t.Helper()
		if !slices.Equal(n, want) || e != api.OK {
			t.Fatalf("%s: %v, %d; want %v", about, n, e, want)
		}
	}
}

// fails returns a check that a call has failed with that error.
func fails(t *testing.T, about string, want api.Errno) func(n cnt.Nat, e api.Errno) {
	return func(n cnt.Nat, e api.Errno) {
		t.Helper()
		if len(n) != 0 || e != want {
			t.Errorf("%s: %v, %d; want %d", about, n, e, want)
		}
	}
}

// shares returns a check that a call has answered n / 2^k.
func shares(t trial.Test, about string, n cnt.Nat, k int) func(n cnt.Nat, k int, e api.Errno) {
	return func(got cnt.Nat, power int, e api.Errno) {
		t.Helper()
		if !slices.Equal(got, n) || power != k || e != api.OK {
			t.Fatalf("%s: %v, %d, %d; want %v, %d", about, got, power, e, n, k)
		}
	}
}

func small(n int) cnt.Nat { return cnt.Of(uint64(n)) }

// power returns 2^k.
func power(k int) cnt.Nat { return cnt.Shift(cnt.Of(1), k) }

func TestTheExample(t *testing.T) {
	w := trial.New(t, nil, 3, 100)
	f := w.Handle(w.Variable(0) | w.Variable(2))
	counts(t, "Count", small(6))(satc.Count(w.M, f, 0, 1, 2))
	shares(t, "Share", small(3), 2)(satc.Share(w.M, f))
	counts(t, "Ways", small(4))(satc.Ways(w.M, f, yes(0)))
}

// satisfied returns how many assignments to all variables satisfy a function and agree with the literals.
func satisfied(w *trial.World, values uint64, l ...api.Lit) int {
	values &= w.All()
	for _, lit := range l {
		if lit.Yes {
			values &= w.Variable(lit.Var)
		} else {
			values &^= w.Variable(lit.Var)
		}
	}
	return bits.OnesCount64(values)
}

// supports returns whether a function depends on each variable.
func supports(w *trial.World, values uint64) (l []bool) {
	for v := range w.M.Vars() {
		l = append(l, trial.Depends(values, v))
	}
	return l
}

// tells checks what is told of a function with that table, for sets of variables and literals.
func tells(w *trial.World, f int, values uint64) {
	w.T.Helper()
	vars := w.M.Vars()
	needed := supports(w, values)
	for set := range 1 << vars {
		var l []int
		enough := true
		for v := range vars {
			if set>>v&1 == 1 {
				l = append(l, v)
			} else if needed[v] {
				enough = false
			}
		}
		n, e := satc.Count(w.M, f, l...)
		switch {
		case !enough && (e != api.ErrArg || len(n) != 0):
			w.T.Fatalf("Count(%x, %v): %v, %d", values, l, n, e)
		case enough:
			counts(w.T, "Count", small(satisfied(w, values)>>(vars-len(l))))(n, e)
		}
	}
	n, k := satisfied(w, values), vars
	for ; k > 0 && n%2 == 0; k-- {
		n /= 2
	}
	shares(w.T, "Share", small(n), k)(satc.Share(w.M, f))
	counts(w.T, "Ways", small(satisfied(w, values)))(satc.Ways(w.M, f))
}

func TestAllFunctionsOfThreeVariables(t *testing.T) {
	for vars := range 4 {
		w := trial.New(t, nil, vars, 2000)
		for values := range w.All() + 1 {
			f := w.Handle(values)
			tells(w, f, values)
			for code := range 1 << (2 * vars) {
				var l []api.Lit
				for v := range vars {
					if code>>(2*v)&2 == 2 {
						l = append(l, api.Lit{Var: v, Yes: code>>(2*v)&1 == 1})
					}
				}
				counts(t, "Ways", small(satisfied(w, values, l...)))(satc.Ways(w.M, f, l...))
			}
			w.M.Drop(f)
		}
	}
}

func TestRandomFunctions(t *testing.T) {
	r := rand.New(rand.NewSource(19))
	for range 150 {
		vars := r.Intn(7)
		w := trial.New(t, r, vars, trial.Enough(vars, 5))
		for range 10 {
			values := w.Some()
			f := w.Handle(values)
			w.Disturb()
			handles, waits, order := w.M.Handles(), w.M.Waits(), w.M.Order()
			tells(w, f, values)
			var l []api.Lit
			for _, v := range r.Perm(vars)[:r.Intn(vars+1)] {
				l = append(l, api.Lit{Var: v, Yes: r.Intn(2) == 0})
			}
			before := slices.Clone(l)
			counts(t, "Ways", small(satisfied(w, values, l...)))(satc.Ways(w.M, f, l...))
			set := append(r.Perm(vars), r.Perm(vars)...) // each variable twice
			given := slices.Clone(set)
			counts(t, "Count", small(satisfied(w, values)))(satc.Count(w.M, f, set...))
			if !slices.Equal(l, before) || !slices.Equal(set, given) || w.M.Handles() != handles || w.M.Waits() != waits || !slices.Equal(w.M.Order(), order) {
				t.Fatal("counting has changed something")
			}
			w.M.Drop(f)
		}
	}
}

func TestDerivedProperties(t *testing.T) {
	r := rand.New(rand.NewSource(20))
	m, e := dd.New(40, 50000)
	if e != api.OK {
		t.Fatal(e)
	}
	w := &trial.World{T: t, R: r, M: m}
	f := 0
	for range 30 {
		a, b := w.Right(m.Var(r.Intn(40))), w.Right(m.Var(r.Intn(40)))
		f = w.Right(m.Ite(f, a, b))
		not := w.Right(m.Not(f))
		whole, e := satc.Ways(m, f)
		rest, e2 := satc.Ways(m, not)
		if e != api.OK || e2 != api.OK || !slices.Equal(cnt.Add(whole, rest), power(40)) {
			t.Fatal(whole, rest, e, e2)
		}
		for v := range 40 {
			lo, e := satc.Ways(m, f, no(v))
			hi, e2 := satc.Ways(m, f, yes(v))
			if e != api.OK || e2 != api.OK || !slices.Equal(cnt.Add(lo, hi), whole) {
				t.Fatal(v, lo, hi, whole, e, e2)
			}
		}
		n, k, e := satc.Share(m, f)
		if e != api.OK || !slices.Equal(cnt.Shift(n, 40-k), whole) {
			t.Fatal(n, k, whole, e)
		}
	}
}

// With 64 variables nothing must go through all assignments, and the counts don't fit into a word.
func TestManyVariables(t *testing.T) {
	m, e := dd.New(64, 5000)
	if e != api.OK {
		t.Fatal(e)
	}
	w := &trial.World{T: t, M: m}
	var all []int
	parity, each, pairs := 0, 1, 0
	for v := range 64 {
		all = append(all, 63-v)
		x := w.Right(m.Var(63 - v))
		not := w.Right(m.Not(parity))
		parity = w.Right(m.Ite(x, not, parity))
		each = w.Right(m.Ite(x, each, 0))
		if v%2 == 1 {
			both := w.Right(m.Ite(x, w.Right(m.Var(64-v)), 0))
			pairs = w.Right(m.Ite(both, 1, pairs))
		}
	}
	three := cnt.Of(1)
	for range 32 {
		three = cnt.Mul(three, cnt.Of(3))
	}
	some, _ := cnt.Sub(power(64), three) // each pair is missing in three of four ways
	counts(t, "the constant true", power(64))(satc.Count(m, 1, all...))
	counts(t, "the constant true", power(64))(satc.Ways(m, 1))
	counts(t, "the constant true", power(63))(satc.Ways(m, 1, no(63)))
	counts(t, "the constant true", power(0))(satc.Count(m, 1))
	counts(t, "the constant false", nil)(satc.Count(m, 0, all...))
	counts(t, "parity", power(63))(satc.Count(m, parity, all...))
	counts(t, "parity", power(61))(satc.Ways(m, parity, yes(0), no(40)))
	counts(t, "all", power(0))(satc.Count(m, each, all...))
	counts(t, "pairs", some)(satc.Count(m, pairs, all...))
	shares(t, "the constant true", small(1), 0)(satc.Share(m, 1))
	shares(t, "the constant false", nil, 0)(satc.Share(m, 0))
	shares(t, "parity", small(1), 1)(satc.Share(m, parity))
	shares(t, "all", small(1), 64)(satc.Share(m, each))
	shares(t, "pairs", some, 64)(satc.Share(m, pairs))
}

func TestWrongArguments(t *testing.T) {
	w := trial.New(t, nil, 3, 100)
	f := w.Handle(0x5c)
	gone := w.Handle(1)
	w.M.Drop(gone)
	share := func(m *dd.Man, f int) (cnt.Nat, api.Errno) {
		n, k, e := satc.Share(m, f)
		if k != 0 {
			t.Error(k)
		}
		return n, e
	}
	for _, bad := range []int{gone, -1, 99, math.MinInt, math.MaxInt} {
		fails(t, "Count", api.ErrHandle)(satc.Count(w.M, bad))
		fails(t, "Count", api.ErrHandle)(satc.Count(w.M, bad, 3))
		fails(t, "Share", api.ErrHandle)(share(w.M, bad))
		fails(t, "Ways", api.ErrHandle)(satc.Ways(w.M, bad))
		fails(t, "Ways", api.ErrHandle)(satc.Ways(w.M, bad, no(3), no(1), no(1)))
	}
	for _, bad := range []int{-1, 3, 99, math.MinInt, math.MaxInt} {
		fails(t, "Count", api.ErrVar)(satc.Count(w.M, f, bad))
		fails(t, "Count", api.ErrVar)(satc.Count(w.M, f, 0, 1, 2, bad))
		fails(t, "Ways", api.ErrVar)(satc.Ways(w.M, f, no(bad)))
		fails(t, "Ways", api.ErrVar)(satc.Ways(w.M, f, no(0), yes(0), no(bad)))
	}
	fails(t, "Count", api.ErrArg)(satc.Count(w.M, f, 0, 1))
	fails(t, "Count", api.ErrArg)(satc.Count(w.M, f))
	fails(t, "Ways", api.ErrTwice)(satc.Ways(w.M, f, no(2), yes(0), no(2)))
	fails(t, "Ways", api.ErrTwice)(satc.Ways(w.M, 0, no(1), yes(1)))
	fails(t, "no manager", api.ErrNone)(satc.Count(nil, 9, 9))
	fails(t, "no manager", api.ErrNone)(share(nil, 9))
	fails(t, "no manager", api.ErrNone)(satc.Ways(nil, 9, no(9), no(9)))
}
