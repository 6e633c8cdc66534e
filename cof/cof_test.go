package cof_test

import (
	"math"
	"math/rand"
	"slices"
	"testing"

	"voussoir/api"
	"voussoir/cof"
	"voussoir/dd"
	"voussoir/edge"
	"voussoir/supp"
	"voussoir/trial"
)

func no(v int) api.Lit  { return api.Lit{Var: v} }
func yes(v int) api.Lit { return api.Lit{Var: v, Yes: true} }

// fixed returns a table with the variables of the literals fixed.
func fixed(values uint64, l ...api.Lit) uint64 {
	for _, lit := range l {
		value := 0
		if lit.Yes {
			value = 1
		}
		values = trial.Cofactor(values, lit.Var, value)
	}
	return values
}

// someLiterals returns literals of different variables.
func someLiterals(w *trial.World) (l []api.Lit) {
	for v := range w.M.Vars() {
		if w.R.Intn(2) == 0 {
			l = slices.Insert(l, w.R.Intn(len(l)+1), api.Lit{Var: v, Yes: w.R.Intn(2) == 0})
		}
	}
	return l
}

// nearest returns the assignment nearest to i at which c is true, where c is true at some.
func nearest(order []int, c uint64, i int) int {
	var left []int
	for j := range 64 {
		if c>>j&1 == 1 {
			left = append(left, j)
		}
	}
	for _, v := range order {
		agrees := func(j int) bool { return i>>v&1 == j>>v&1 }
		if slices.ContainsFunc(left, agrees) {
			left = slices.DeleteFunc(left, func(j int) bool { return !agrees(j) })
		}
	}
	return left[0]
}

// constrained returns the table that Constrain is to yield in the present order.
func constrained(w *trial.World, values, c uint64) (r uint64) {
	for i := range 1 << w.M.Vars() {
		r |= values >> nearest(w.M.Order(), c, i) & 1 << i
	}
	return r
}

// constrains checks what Constrain returns for functions with these tables, and drops it.
func constrains(w *trial.World, f, g int, a, c uint64) {
	w.T.Helper()
	h := w.Right(cof.Constrain(w.M, f, g))
	if got, want := w.Table(h), constrained(w, a, c); got != want {
		w.T.Fatalf("Constrain of %x by %x in order %v: %x; want %x", a, c, w.M.Order(), got, want)
	}
	w.M.Drop(h)
}

// restricts checks what Restrict returns for functions with these tables, and drops it.
func restricts(w *trial.World, f, g int, a, c uint64) {
	w.T.Helper()
	h := w.Right(cof.Restrict(w.M, f, g))
	got := w.Table(h)
	if (got^a)&c != 0 {
		w.T.Fatalf("Restrict of %x by %x: %x", a, c, got)
	}
	for v := range w.M.Vars() {
		if trial.Depends(got, v) && !trial.Depends(a, v) {
			w.T.Fatalf("Restrict of %x by %x: %x, which depends on %d", a, c, got, v)
		}
	}
	w.M.Drop(h)
}

// squeezes checks what Squeeze returns for functions with these tables, of which one implies the other.
func squeezes(w *trial.World, f, g int, a, b uint64) {
	w.T.Helper()
	h := w.Right(cof.Squeeze(w.M, f, g))
	if got := w.Table(h); a&^got != 0 || got&^b != 0 {
		w.T.Fatalf("Squeeze of %x and %x: %x", a, b, got)
	}
	var sizes []int
	for _, k := range []int{h, f, g} {
		n, e := supp.Size(w.M, k)
		if e != api.OK {
			w.T.Fatal(e)
		}
		sizes = append(sizes, n)
	}
	if sizes[0] > min(sizes[1], sizes[2]) {
		w.T.Fatalf("Squeeze of %x and %x has %d nodes; these have %d and %d", a, b, sizes[0], sizes[1], sizes[2])
	}
	w.M.Drop(h)
}

func TestTheExamples(t *testing.T) {
	w := trial.New(t, nil, 2, 100)
	x0, x1, both := w.Handle(0b1010), w.Handle(0b1100), w.Handle(0b1000)
	w.Has("Cofactor", 0b1100)(cof.Cofactor(w.M, both, yes(0)))
	w.Has("Constrain", 0b1111)(cof.Constrain(w.M, x1, both))
	restricts(w, both, x1, 0b1000, 0b1100)
	squeezes(w, both, x0, 0b1000, 0b1010)
	w.Has("Squeeze", 0b1010)(cof.Squeeze(w.M, both, x0))
}

func TestConstrainDependsOnTheOrder(t *testing.T) {
	w := trial.New(t, nil, 2, 100)
	x0, or := w.Handle(0b1010), w.Handle(0b1110)
	// In the order 0, 1 the assignment nearest to false, false is false, true; in the order 1, 0 it is true, false.
	w.Has("in the order 0, 1", 0b1010)(cof.Constrain(w.M, x0, or))
	if e := w.M.Swap(0); e != api.OK {
		t.Fatal(e)
	}
	w.Has("in the order 1, 0", 0b1011)(cof.Constrain(w.M, x0, or))
}

func TestAllPairsOfTwoVariables(t *testing.T) {
	w := trial.New(t, nil, 2, trial.Enough(2, 20))
	var l []int
	for values := range uint64(16) {
		l = append(l, w.Handle(values))
	}
	for range 2 {
		for a := range uint64(16) {
			for b := range uint64(16) {
				if b != 0 {
					constrains(w, l[a], l[b], a, b)
					restricts(w, l[a], l[b], a, b)
				}
				if a&^b == 0 {
					squeezes(w, l[a], l[b], a, b)
				} else {
					w.Fails("Squeeze", api.ErrArg)(cof.Squeeze(w.M, l[a], l[b]))
				}
			}
			for _, lits := range [][]api.Lit{{}, {no(0)}, {yes(0)}, {no(1)}, {yes(1), no(0)}, {no(0), yes(1)}, {yes(0), yes(1)}} {
				w.Has("Cofactor", fixed(a, lits...))(cof.Cofactor(w.M, l[a], lits...))
			}
		}
		w.M.Swap(0)
	}
}

func TestRandomFunctions(t *testing.T) {
	r := rand.New(rand.NewSource(17))
	for range 300 {
		vars := r.Intn(7)
		w := trial.New(t, r, vars, trial.Enough(vars, 5))
		for range 20 {
			a, c := w.Some(), w.Some()
			c &= w.R.Uint64() | -uint64(r.Intn(2))
			c |= 1 << r.Intn(1<<vars)
			f, g, or := w.Handle(a), w.Handle(c), w.Handle(a|c)
			lits := someLiterals(w)
			before := slices.Clone(lits)
			w.Disturb()
			w.Has("Cofactor", fixed(a, lits...))(cof.Cofactor(w.M, f, lits...))
			constrains(w, f, g, a, c)
			w.Disturb()
			restricts(w, f, g, a, c)
			w.Disturb()
			squeezes(w, f, or, a, a|c)
			squeezes(w, g, or, c, a|c)
			w.Has("Cofactor", fixed(c, lits...))(cof.Cofactor(w.M, g, lits...))
			if !slices.Equal(lits, before) {
				t.Fatal("the argument has changed")
			}
			w.M.Drop(f, g, or)
		}
	}
}

// What is remembered for one operation, one condition or one order does not count for another.
func TestAskedAgain(t *testing.T) {
	r := rand.New(rand.NewSource(18))
	w := trial.New(t, r, 4, trial.Enough(4, 12))
	for range 300 {
		a, b := w.Some()&0xfffe|1, w.Some()|1
		f, g, or := w.Handle(a), w.Handle(b), w.Handle(a|b)
		for round := range 6 {
			constrains(w, f, g, a, b)
			restricts(w, f, g, a, b)
			constrains(w, g, f, b, a)
			restricts(w, g, f, b, a)
			squeezes(w, f, or, a, a|b)
			squeezes(w, g, or, b, a|b)
			constrains(w, f, or, a, a|b)
			restricts(w, or, f, a|b, a)
			if round%2 == 1 {
				w.M.Swap(r.Intn(3))
			}
		}
		w.M.Drop(f, g, or)
	}
}

func TestDerivedProperties(t *testing.T) {
	r := rand.New(rand.NewSource(19))
	w := trial.New(t, r, 5, trial.Enough(5, 30))
	for range 300 {
		f, c := w.Handle(w.Some()), w.Handle(w.Some()|1<<r.Intn(32))
		not := w.Right(w.M.Not(f))
		lits := someLiterals(w)
		w.Disturb()
		all := w.Right(cof.Cofactor(w.M, f, lits...))
		single, backwards := w.Right(w.M.Copy(f)), slices.Clone(lits)
		for _, lit := range lits {
			single = w.Right(cof.Cofactor(w.M, single, lit))
			if depends, e := supp.Depends(w.M, all, lit.Var); depends || e != api.OK {
				t.Fatal("a cofactor depends on a variable that is fixed")
			}
		}
		slices.Reverse(backwards)
		w.Same("one by one", single, all)
		w.Same("in another order", w.Right(cof.Cofactor(w.M, f, backwards...)), all)
		x := w.Right(w.M.Var(3))
		hi, lo := w.Right(cof.Cofactor(w.M, f, yes(3))), w.Right(cof.Cofactor(w.M, f, no(3)))
		w.Same("its cofactors", w.Right(w.M.Ite(x, hi, lo)), f)
		both := w.Right(w.M.Ite(f, c, 0))
		w.Disturb()
		w.Same("restricted", w.Right(w.M.Ite(c, w.Right(cof.Restrict(w.M, f, c)), 0)), both)
		w.Same("constrained", w.Right(w.M.Ite(c, w.Right(cof.Constrain(w.M, f, c)), 0)), both)
		// With the events of the first calls gone, the order stays.
		for w.M.Waits() > 0 {
			w.Right(cof.Constrain(w.M, both, c))
			w.Right(w.M.Ite(x, both, c))
			w.Right(w.M.Do(func(x *dd.Ctx) edge.Edge { return x.Mk(0, edge.Zero, edge.One) }))
		}
		w.Same("the complement", w.Right(w.M.Not(w.Right(cof.Constrain(w.M, not, c)))), w.Right(cof.Constrain(w.M, f, c)))
		w.Same("by itself", w.Right(cof.Constrain(w.M, c, c)), 1)
		w.DropAll()
	}
}

// Between two functions there may be one that is smaller than both.
func TestSqueezeFindsWhatIsSmaller(t *testing.T) {
	w := trial.New(t, nil, 4, 200)
	x := w.Variable
	f, g := w.Handle(x(2)&x(0)&x(1)), w.Handle(x(2)|x(0)&x(3))
	for range 6 {
		h := w.Right(cof.Squeeze(w.M, f, g))
		if n, e := supp.Size(w.M, h); n > 2 || e != api.OK {
			t.Error(n, e)
		}
		for level := range 3 {
			w.M.Swap(level)
		}
	}
}

func TestWrongArguments(t *testing.T) {
	w := trial.New(t, nil, 3, 100)
	f := w.Handle(0x5c)
	gone := w.Handle(1)
	w.M.Drop(gone)
	for _, bad := range []int{gone, -1, 99, math.MinInt, math.MaxInt} {
		w.Fails("Cofactor", api.ErrHandle)(cof.Cofactor(w.M, bad))
		w.Fails("Cofactor", api.ErrHandle)(cof.Cofactor(w.M, bad, no(3), no(1), no(1)))
		w.Fails("Constrain", api.ErrHandle)(cof.Constrain(w.M, bad, f))
		w.Fails("Constrain", api.ErrHandle)(cof.Constrain(w.M, f, bad))
		w.Fails("Constrain", api.ErrHandle)(cof.Constrain(w.M, bad, 0))
		w.Fails("Restrict", api.ErrHandle)(cof.Restrict(w.M, bad, 0))
		w.Fails("Restrict", api.ErrHandle)(cof.Restrict(w.M, 0, bad))
		w.Fails("Squeeze", api.ErrHandle)(cof.Squeeze(w.M, bad, f))
		w.Fails("Squeeze", api.ErrHandle)(cof.Squeeze(w.M, 1, bad))
	}
	for _, bad := range []int{-1, 3, 99, math.MinInt, math.MaxInt} {
		w.Fails("Cofactor", api.ErrVar)(cof.Cofactor(w.M, f, no(bad)))
		w.Fails("Cofactor", api.ErrVar)(cof.Cofactor(w.M, 1, yes(0), yes(0), no(bad)))
	}
	w.Fails("Cofactor", api.ErrTwice)(cof.Cofactor(w.M, f, no(1), yes(0), no(1)))
	w.Fails("Cofactor", api.ErrTwice)(cof.Cofactor(w.M, 0, no(2), yes(2)))
	never := w.Handle(0)
	for _, h := range []int{0, 1, f} {
		w.Fails("Constrain", api.ErrEmpty)(cof.Constrain(w.M, h, 0))
		w.Fails("Restrict", api.ErrEmpty)(cof.Restrict(w.M, h, never))
	}
	w.Fails("Squeeze", api.ErrArg)(cof.Squeeze(w.M, 1, f))
	w.Fails("Squeeze", api.ErrArg)(cof.Squeeze(w.M, f, 0))
	for _, call := range []func() (int, api.Errno){
		func() (int, api.Errno) { return cof.Cofactor(nil, 9, no(9), no(9)) },
		func() (int, api.Errno) { return cof.Cofactor(nil, 0) },
		func() (int, api.Errno) { return cof.Constrain(nil, 1, 0) },
		func() (int, api.Errno) { return cof.Restrict(nil, 9, 0) },
		func() (int, api.Errno) { return cof.Squeeze(nil, 1, 0) },
	} {
		w.Fails("no manager", api.ErrNone)(call())
	}
}

func TestConstants(t *testing.T) {
	w := trial.New(t, nil, 0, 1)
	for k := range 2 {
		w.Has("Cofactor", uint64(k))(cof.Cofactor(w.M, k))
		w.Has("Constrain", uint64(k))(cof.Constrain(w.M, k, 1))
		w.Has("Restrict", uint64(k))(cof.Restrict(w.M, k, 1))
		w.Has("Squeeze", uint64(k))(cof.Squeeze(w.M, k, k))
	}
}

func TestLittleRoom(t *testing.T) {
	some := func(op func(m *dd.Man, f, c int) (int, api.Errno)) func(m *dd.Man, f, g int) (int, api.Errno) {
		return func(m *dd.Man, f, g int) (int, api.Errno) {
			if never, _ := m.Same(g, 0); never {
				g = 1
			}
			return op(m, f, g)
		}
	}
	trial.LittleRoom(t, rand.New(rand.NewSource(20)),
		func(m *dd.Man, f, g int) (int, api.Errno) { return cof.Cofactor(m, f, no(2), yes(0)) },
		some(cof.Constrain), some(cof.Restrict),
		func(m *dd.Man, f, g int) (int, api.Errno) {
			or, e := m.Ite(f, 1, g)
			if e != api.OK {
				return 0, e
			}
			defer m.Drop(or)
			return cof.Squeeze(m, f, or)
		})
}

// With 64 variables an operation must not go through all assignments, or all paths.
func TestManyVariables(t *testing.T) {
	m, e := dd.New(64, 50000)
	if e != api.OK {
		t.Fatal(e)
	}
	w := &trial.World{T: t, M: m}
	parity, and, or := 0, 1, 0
	var zeros []api.Lit
	for v := range 64 {
		x := w.Right(m.Var(v))
		not := w.Right(m.Not(parity))
		parity = w.Right(m.Ite(x, not, parity))
		and, or = w.Right(m.Ite(and, x, 0)), w.Right(m.Ite(or, 1, x))
		zeros = append(zeros, no(v))
	}
	last := w.Right(m.Var(63))
	w.Same("one variable is left", w.Right(cof.Cofactor(m, parity, zeros[:63]...)), last)
	w.Same("none is left", w.Right(cof.Cofactor(m, parity, zeros...)), 0)
	w.Same("parity by a cube", w.Right(cof.Constrain(m, parity, and)), 0)
	w.Same("parity by a disjunction", w.Right(m.Ite(or, w.Right(cof.Constrain(m, parity, or)), 0)), w.Right(m.Ite(or, parity, 0)))
	w.Same("a cube by parity", w.Right(m.Ite(parity, w.Right(cof.Restrict(m, and, parity)), 0)), 0)
	w.Same("between parity and itself", w.Right(cof.Squeeze(m, parity, parity)), parity)
	squeezed := w.Right(cof.Squeeze(m, and, or))
	if n, e := supp.Size(m, squeezed); n != 1 || e != api.OK {
		t.Error(n, e)
	}
}
