package ops_test

import (
	"math"
	"math/bits"
	"math/rand"
	"slices"
	"testing"

	"voussoir/api"
	"voussoir/dd"
	"voussoir/ops"
	"voussoir/trial"
)

func TestTheExample(t *testing.T) {
	w := trial.New(t, nil, 2, 100)
	x0, x1 := w.Handle(0b1010), w.Handle(0b1100)
	f := w.Right(ops.And(w.M, x0, x1))
	if yes, e := ops.Within(w.M, f, x1); !yes || e != api.OK {
		t.Error(yes, e)
	}
	w.Has("Diff", 0)(ops.Diff(w.M, f, x1))
	w.Has("Or", 0)(ops.Or(w.M))
}

// combine returns what an operation makes of the tables.
func combine(l []uint64, unit uint64, op func(a, b uint64) uint64) uint64 {
	r := unit
	for _, values := range l {
		r = op(r, values)
	}
	return r
}

func and(a, b uint64) uint64 { return a & b }
func or(a, b uint64) uint64  { return a | b }
func xor(a, b uint64) uint64 { return a ^ b }

func TestAllPairsOfTwoVariables(t *testing.T) {
	w := trial.New(t, nil, 2, trial.Enough(2, 20))
	var l []int
	for values := range uint64(16) {
		l = append(l, w.Handle(values))
	}
	for a := range uint64(16) {
		for b := range uint64(16) {
			f, g := l[a], l[b]
			w.Has("And", a&b)(ops.And(w.M, f, g))
			w.Has("Or", a|b)(ops.Or(w.M, f, g))
			w.Has("Xor", a^b)(ops.Xor(w.M, f, g))
			w.Has("Imp", ^a|b)(ops.Imp(w.M, f, g))
			w.Has("Iff", ^(a ^ b))(ops.Iff(w.M, f, g))
			w.Has("Diff", a&^b)(ops.Diff(w.M, f, g))
			w.Asks("Within", a&^b == 0)(ops.Within(w.M, f, g))
			w.Asks("Meets", a&b != 0)(ops.Meets(w.M, f, g))
		}
	}
}

func TestRandomFunctions(t *testing.T) {
	r := rand.New(rand.NewSource(14))
	for range 300 {
		vars := r.Intn(7)
		w := trial.New(t, r, vars, trial.Enough(vars, 9))
		for range 20 {
			var l []int
			var tables []uint64
			for range r.Intn(6) {
				values := w.Some()
				l = append(l, w.Handle(values))
				tables = append(tables, values)
			}
			given := slices.Clone(l)
			w.Disturb()
			w.Has("And", combine(tables, w.All(), and))(ops.And(w.M, l...))
			w.Has("Or", combine(tables, 0, or))(ops.Or(w.M, l...))
			w.Has("Xor", combine(tables, 0, xor))(ops.Xor(w.M, l...))
			if len(l) >= 2 {
				a, b := tables[0], tables[1]
				w.Has("Imp", ^a|b)(ops.Imp(w.M, l[0], l[1]))
				w.Has("Iff", ^(a ^ b))(ops.Iff(w.M, l[0], l[1]))
				w.Has("Diff", a&^b)(ops.Diff(w.M, l[0], l[1]))
				w.Disturb()
				w.Asks("Within", a&^b == 0)(ops.Within(w.M, l[0], l[1]))
				w.Asks("Meets", a&b != 0)(ops.Meets(w.M, l[0], l[1]))
				both := w.Right(ops.And(w.M, l[0], l[1]))
				w.Asks("Within", true)(ops.Within(w.M, both, l[1]))
			}
			if !slices.Equal(l, given) {
				t.Fatal("the argument has changed")
			}
			w.DropAll()
		}
	}
}

// What is remembered for one order or for nodes that are gone does not count afterwards.
func TestAskedAgain(t *testing.T) {
	r := rand.New(rand.NewSource(15))
	w := trial.New(t, r, 5, 120)
	for range 3000 {
		a, b := w.Some(), w.Some()
		f, g := w.Handle(a), w.Handle(b)
		for range 2 {
			w.Asks("Meets", a&b != 0)(ops.Meets(w.M, f, g))
			w.Asks("Within", a&^b == 0)(ops.Within(w.M, f, g))
			w.M.Swap(r.Intn(4))
		}
		w.M.Drop(f, g)
	}
}

func TestDerivedProperties(t *testing.T) {
	r := rand.New(rand.NewSource(16))
	w := trial.New(t, r, 5, trial.Enough(5, 20))
	same := func(f, g int) bool {
		yes, e := w.M.Same(f, g)
		if e != api.OK {
			t.Fatal(e)
		}
		return yes
	}
	for range 300 {
		f, g := w.Handle(w.Some()), w.Handle(w.Some())
		w.Disturb()
		nf, ng := w.Right(w.M.Not(f)), w.Right(w.M.Not(g))
		both, either := w.Right(ops.And(w.M, f, g)), w.Right(ops.Or(w.M, nf, ng))
		odd, iff := w.Right(ops.Xor(w.M, f, g)), w.Right(ops.Iff(w.M, f, g))
		imp, diff := w.Right(ops.Imp(w.M, f, g)), w.Right(ops.Diff(w.M, f, g))
		if !same(both, w.Right(w.M.Not(either))) || !same(odd, w.Right(w.M.Not(iff))) {
			t.Fatal("a law does not hold")
		}
		w.Asks("Within", same(imp, 1))(ops.Within(w.M, f, g))
		w.Asks("Within", same(diff, 0))(ops.Within(w.M, f, g))
		w.Asks("Meets", !same(both, 0))(ops.Meets(w.M, f, g))
		if same(f, g) != (w.Table(f) == w.Table(g)) {
			t.Fatal("Same is wrong")
		}
		w.DropAll()
	}
}

func TestWrongArguments(t *testing.T) {
	w := trial.New(t, nil, 2, 100)
	f := w.Handle(6)
	gone := w.Handle(6)
	w.M.Drop(gone)
	for _, bad := range []int{gone, -1, 99, math.MinInt, math.MaxInt} {
		for _, l := range [][]int{{bad}, {bad, f}, {f, bad}, {0, 1, bad}, {1, f, 0, bad}} {
			w.Fails("And", api.ErrHandle)(ops.And(w.M, l...))
			w.Fails("Or", api.ErrHandle)(ops.Or(w.M, l...))
			w.Fails("Xor", api.ErrHandle)(ops.Xor(w.M, l...))
		}
		for _, l := range [][2]int{{bad, f}, {f, bad}, {bad, bad}, {0, bad}, {bad, 1}} {
			for name, op := range map[string]func(m *dd.Man, f, g int) (int, api.Errno){"Imp": ops.Imp, "Iff": ops.Iff, "Diff": ops.Diff} {
				w.Fails(name, api.ErrHandle)(op(w.M, l[0], l[1]))
			}
			for name, ask := range map[string]func(m *dd.Man, f, g int) (bool, api.Errno){"Within": ops.Within, "Meets": ops.Meets} {
				if yes, e := ask(w.M, l[0], l[1]); yes || e != api.ErrHandle {
					t.Errorf("%s: %v, %d", name, yes, e)
				}
			}
		}
	}
}

func TestNoManager(t *testing.T) {
	var errs []api.Errno
	add := func(h int, e api.Errno) {
		if h != 0 {
			t.Error(h)
		}
		errs = append(errs, e)
	}
	add(ops.And(nil))
	add(ops.And(nil, 7))
	add(ops.Or(nil, 0))
	add(ops.Xor(nil, 1, 1))
	add(ops.Imp(nil, 0, 9))
	add(ops.Iff(nil, 0, 0))
	add(ops.Diff(nil, 0, 0))
	add(ops.Of(nil, api.Expr{}))
	add(ops.Of(nil, api.Expr{Op: api.ETrue}))
	yes, e := ops.Within(nil, 0, 0)
	meets, e2 := ops.Meets(nil, 1, 1)
	for _, e := range append(errs, e, e2) {
		if e != api.ErrNone {
			t.Error(e)
		}
	}
	if yes || meets {
		t.Error(yes, meets)
	}
}

func TestLittleRoom(t *testing.T) {
	trial.LittleRoom(t, rand.New(rand.NewSource(17)),
		func(m *dd.Man, f, g int) (int, api.Errno) { return ops.And(m, f, g) },
		func(m *dd.Man, f, g int) (int, api.Errno) { return ops.Xor(m, f, g, f, g, f, g) },
		func(m *dd.Man, f, g int) (int, api.Errno) { return ops.Imp(m, g, f) })
}

// With 64 variables an operation must not go through all assignments, or all paths.
func TestManyVariables(t *testing.T) {
	m, e := dd.New(64, 20000)
	if e != api.OK {
		t.Fatal(e)
	}
	w := &trial.World{T: t, M: m}
	var vars, pairs []int
	for v := range 64 {
		vars = append(vars, w.Right(m.Var(v)))
	}
	odd, all := w.Right(ops.Xor(m, vars...)), w.Right(ops.And(m, vars...))
	for v := range 32 {
		pairs = append(pairs, w.Right(ops.Iff(m, vars[2*v], vars[2*v+1])))
	}
	twins := w.Right(ops.And(m, pairs...))
	w.Asks("Meets", false)(ops.Meets(m, odd, twins))
	w.Asks("Meets", false)(ops.Meets(m, odd, all))
	w.Asks("Meets", true)(ops.Meets(m, twins, all))
	w.Asks("Within", true)(ops.Within(m, all, twins))
	w.Asks("Within", false)(ops.Within(m, twins, odd))
	even := w.Right(m.Not(odd))
	w.Asks("Within", true)(ops.Within(m, twins, even))
	both := w.Right(ops.And(m, twins, even))
	if yes, _ := m.Same(both, twins); !yes {
		t.Error("the conjunction is wrong")
	}
	r := rand.New(rand.NewSource(18))
	for range 200 {
		set := r.Uint64()
		var l []bool
		for v := range 64 {
			l = append(l, set>>v&1 == 1)
		}
		if yes, _ := m.Eval(odd, l); yes != (bits.OnesCount64(set)%2 == 1) {
			t.Errorf("wrong at %x", set)
		}
	}
}
