package quant_test

import (
	"math"
	"math/rand"
	"slices"
	"testing"

	"voussoir/api"
	"voussoir/dd"
	"voussoir/quant"
	"voussoir/trial"
)

// exists, forall and odd return the tables that quantification of vars is to yield.
func exists(values uint64, vars ...int) uint64 {
	for _, v := range vars {
		values = trial.Cofactor(values, v, 0) | trial.Cofactor(values, v, 1)
	}
	return values
}

func forall(values uint64, vars ...int) uint64 {
	return ^exists(^values, vars...)
}

func odd(values uint64, vars ...int) uint64 {
	vars = slices.Clone(vars)
	slices.Sort(vars)
	for _, v := range slices.Compact(vars) {
		values = trial.Cofactor(values, v, 0) ^ trial.Cofactor(values, v, 1)
	}
	return values
}

func TestTheExamples(t *testing.T) {
	w := trial.New(t, nil, 2, 100)
	a, b := w.Handle(0b1010), w.Handle(0b1100)
	and := w.Handle(0b1000)
	w.Has("Exists", 0b1100)(quant.Exists(w.M, and, 0))
	w.Has("Forall", 0)(quant.Forall(w.M, and, 0))
	w.Has("Odd", 0b1100)(quant.Odd(w.M, and, 0))
	w.Has("AndExists", 0b1100)(quant.AndExists(w.M, a, b, 0))
	w.Has("Odd", 0)(quant.Odd(w.M, 1, 0))
}

// What the functions of two variables yield is counted one assignment of the variables at a time.
func TestAllFunctionsOfTwoVariables(t *testing.T) {
	w := trial.New(t, nil, 2, trial.Enough(2, 20))
	var l []int
	for values := range uint64(16) {
		l = append(l, w.Handle(values))
	}
	for _, vars := range [][]int{{}, {0}, {1}, {0, 1}, {1, 0, 1}, {0, 0}} {
		for values := range uint64(16) {
			some, all, parity := uint64(0), uint64(0), uint64(0)
			for i := range 4 {
				most, many := 0, 0
				for j := range 4 {
					agree := slices.Contains(vars, 0) || i&1 == j&1
					agree = agree && (slices.Contains(vars, 1) || i&2 == j&2)
					if agree {
						most++
						many += int(values >> j & 1)
					}
				}
				if many > 0 {
					some |= 1 << i
				}
				if many == most {
					all |= 1 << i
				}
				parity |= uint64(many%2) << i
			}
			w.Has("Exists", some)(quant.Exists(w.M, l[values], vars...))
			w.Has("Forall", all)(quant.Forall(w.M, l[values], vars...))
			w.Has("Odd", parity)(quant.Odd(w.M, l[values], vars...))
			for other := range uint64(16) {
				w.Has("AndExists", exists(values&other, vars...))(quant.AndExists(w.M, l[values], l[other], vars...))
			}
		}
	}
}

func TestRandomFunctions(t *testing.T) {
	r := rand.New(rand.NewSource(15))
	for range 300 {
		vars := r.Intn(7)
		w := trial.New(t, r, vars, trial.Enough(vars, 7))
		for range 20 {
			a, b := w.Some(), w.Some()
			f, g := w.Handle(a), w.Handle(b)
			var set []int
			if vars > 0 {
				for range r.Intn(6) {
					set = append(set, r.Intn(vars))
				}
			}
			given := slices.Clone(set)
			w.Disturb()
			w.Has("Exists", exists(a, set...))(quant.Exists(w.M, f, set...))
			w.Has("Forall", forall(a, set...))(quant.Forall(w.M, f, set...))
			w.Has("AndExists", exists(a&b, set...))(quant.AndExists(w.M, f, g, set...))
			w.Has("Odd", odd(a, set...))(quant.Odd(w.M, f, set...))
			w.Disturb()
			w.Has("Odd", odd(b, set...))(quant.Odd(w.M, g, set...))
			w.Has("AndExists", exists(a&b, set...))(quant.AndExists(w.M, g, f, set...))
			w.Has("AndExists", exists(a, set...))(quant.AndExists(w.M, f, f, set...))
			w.Has("AndExists", exists(a, set...))(quant.AndExists(w.M, 1, f, set...))
			w.Has("AndExists", 0)(quant.AndExists(w.M, f, 0, set...))
			if !slices.Equal(set, given) {
				t.Fatal("the argument has changed")
			}
			w.M.Drop(f, g)
		}
	}
}

// What is remembered for one set of variables, one operation or one order does not count for another.
func TestAskedAgain(t *testing.T) {
	r := rand.New(rand.NewSource(16))
	w := trial.New(t, r, 4, trial.Enough(4, 12))
	for range 30 {
		a, b := w.Some(), w.Some()
		f, g := w.Handle(a), w.Handle(b)
		for round := range 32 {
			var set []int
			for v := range 4 {
				if round>>v&1 == 1 {
					set = append(set, v)
				}
			}
			w.Has("Odd", odd(a, set...))(quant.Odd(w.M, f, set...))
			w.Has("Exists", exists(a, set...))(quant.Exists(w.M, f, set...))
			w.Has("AndExists", exists(a&b, set...))(quant.AndExists(w.M, f, g, set...))
			w.Has("Forall", forall(b, set...))(quant.Forall(w.M, g, set...))
			w.Has("Odd", odd(b, set...))(quant.Odd(w.M, g, set...))
			if round%5 == 4 {
				w.M.Swap(r.Intn(3))
			}
		}
		w.M.Drop(f, g)
	}
}

func TestDerivedProperties(t *testing.T) {
	r := rand.New(rand.NewSource(17))
	w := trial.New(t, r, 6, trial.Enough(6, 20))
	for range 200 {
		f, g := w.Handle(w.Some()), w.Handle(exists(w.Some(), 0, 2, 5))
		one, two := []int{0, 5}, []int{2, 5}
		w.Disturb()
		first := w.Right(quant.Exists(w.M, f, one...))
		second := w.Right(quant.Exists(w.M, f, two...))
		whole := w.Right(quant.Exists(w.M, f, 2, 5, 0))
		w.Same("one after the other", w.Right(quant.Exists(w.M, first, two...)), whole)
		w.Same("one after the other", w.Right(quant.Exists(w.M, second, one...)), whole)
		not := w.Right(w.M.Not(f))
		w.Same("forall", w.Right(w.M.Not(w.Right(quant.Exists(w.M, not, one...)))), w.Right(quant.Forall(w.M, f, one...)))
		w.Same("no dependence", w.Right(quant.Exists(w.M, g, two...)), g)
		w.Same("no dependence", w.Right(quant.Forall(w.M, g, two...)), g)
		w.Same("no dependence", w.Right(quant.Odd(w.M, g, 2, 1)), 0)
		w.Same("with itself", w.Right(quant.AndExists(w.M, f, f, one...)), first)
		w.Same("with another", w.Right(quant.AndExists(w.M, f, g, one...)), w.Right(w.M.Ite(g, first, 0)))
		all := w.Right(quant.Forall(w.M, f, two...))
		w.Same("implied", w.Right(w.M.Ite(all, f, 1)), 1)
		w.Same("implied", w.Right(w.M.Ite(f, first, 1)), 1)
		w.DropAll()
	}
}

func TestWrongArguments(t *testing.T) {
	w := trial.New(t, nil, 3, 100)
	f := w.Handle(0x55)
	gone := w.Handle(1)
	w.M.Drop(gone)
	type call = func(m *dd.Man, f int, vars ...int) (int, api.Errno)
	left := func(m *dd.Man, f int, vars ...int) (int, api.Errno) { return quant.AndExists(m, f, 1, vars...) }
	right := func(m *dd.Man, f int, vars ...int) (int, api.Errno) { return quant.AndExists(m, 0, f, vars...) }
	for name, op := range map[string]call{"Exists": quant.Exists, "Forall": quant.Forall, "Odd": quant.Odd, "AndExists": left, "AndExists right": right} {
		for _, bad := range []int{gone, -1, 99, math.MinInt, math.MaxInt} {
			w.Fails(name, api.ErrHandle)(op(w.M, bad))
			w.Fails(name, api.ErrHandle)(op(w.M, bad, 0, 3))
			if bad != gone {
				w.Fails(name, api.ErrVar)(op(w.M, f, bad))
				w.Fails(name, api.ErrVar)(op(w.M, 0, 1, 2, bad, 0))
			}
		}
		w.Fails(name, api.ErrVar)(op(w.M, f, 3))
		w.Fails(name, api.ErrNone)(op(nil, f))
		w.Fails(name, api.ErrNone)(op(nil, 99, -1))
		none := trial.New(t, nil, 0, 1)
		none.Fails(name, api.ErrVar)(op(none.M, 1, 0))
		full := trial.New(t, nil, 3, 1)
		full.Fails(name, api.ErrVar)(op(full.M, 1, 0, 1, 2, 3))
	}
	none := trial.New(t, nil, 0, 1)
	none.Has("Odd", 1)(quant.Odd(none.M, 1))
	none.Has("Exists", 0)(quant.Exists(none.M, 0))
}

func TestLittleRoom(t *testing.T) {
	trial.LittleRoom(t, rand.New(rand.NewSource(18)),
		func(m *dd.Man, f, g int) (int, api.Errno) { return quant.AndExists(m, f, g, 2) },
		func(m *dd.Man, f, g int) (int, api.Errno) { return quant.Exists(m, f, 4, 1) },
		func(m *dd.Man, f, g int) (int, api.Errno) { return quant.Odd(m, g, 3) })
}

// With 64 variables an operation must not go through all assignments, or all paths.
func TestManyVariables(t *testing.T) {
	m, e := dd.New(64, 50000)
	if e != api.OK {
		t.Fatal(e)
	}
	w := &trial.World{T: t, M: m}
	parity, twins, at := 0, 1, []int{}
	for v := range 64 {
		x := w.Right(m.Var(v))
		not := w.Right(m.Not(parity))
		parity = w.Right(m.Ite(x, not, parity))
		if v%2 == 1 {
			y := w.Right(m.Var(v - 1))
			ny := w.Right(m.Not(y))
			twin := w.Right(m.Ite(x, y, ny))
			twins = w.Right(m.Ite(twins, twin, 0))
		} else {
			at = append(at, v)
		}
	}
	w.Same("one pair has a twin", w.Right(quant.Exists(m, twins, at...)), 1)
	w.Same("not for both values", w.Right(quant.Forall(m, twins, 7)), 0)
	w.Same("one of two", w.Right(quant.Exists(m, parity, 40)), 1)
	w.Same("twins have an even number", w.Right(quant.AndExists(m, parity, twins, at...)), 0)
	w.Same("2^62 assignments", w.Right(quant.Odd(m, twins, at[1:]...)), w.Right(quant.Exists(m, twins, at[1:]...)))
	w.Same("half of the assignments", w.Right(quant.Odd(m, parity, at...)), 0)
	w.Same("one of the two", w.Right(quant.Odd(m, parity, 63)), 1)
}
