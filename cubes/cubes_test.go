package cubes_test

import (
	"math"
	"math/rand"
	"slices"
	"testing"

	"voussoir/api"
	"voussoir/cubes"
	"voussoir/dd"
	"voussoir/trial"
)

func no(v int) api.Lit  { return api.Lit{Var: v} }
func yes(v int) api.Lit { return api.Lit{Var: v, Yes: true} }

// tableOf returns the table of a literal, and conjunction that of a cube.
func tableOf(w *trial.World, lit api.Lit) uint64 {
	if lit.Yes {
		return w.Variable(lit.Var)
	}
	return w.All() &^ w.Variable(lit.Var)
}

func conjunction(w *trial.World, cube []api.Lit) uint64 {
	values := w.All()
	for _, lit := range cube {
		values &= tableOf(w, lit)
	}
	return values
}

// essential returns the literals that a function implies.
func essential(w *trial.World, values uint64) (l []api.Lit) {
	for v := range w.M.Vars() {
		for _, lit := range []api.Lit{no(v), yes(v)} {
			if values&^tableOf(w, lit) == 0 {
				l = append(l, lit)
			}
		}
	}
	return l
}

// cover returns a cube for each path in the diagram of a function.
func cover(w *trial.World, values uint64) (l [][]api.Lit) {
	var follow func(level int, values uint64, path ...api.Lit)
	follow = func(level int, values uint64, path ...api.Lit) {
		if level == w.M.Vars() {
			if values != 0 {
				slices.SortFunc(path, func(a, b api.Lit) int { return a.Var - b.Var })
				l = append(l, path)
			}
			return
		}
		v := w.M.Order()[level]
		if !trial.Depends(values, v) {
			follow(level+1, values, path...)
			return
		}
		follow(level+1, trial.Cofactor(values, v, 0), append(slices.Clone(path), no(v))...)
		follow(level+1, trial.Cofactor(values, v, 1), append(slices.Clone(path), yes(v))...)
	}
	follow(0, values)
	return l
}

// sameCubes reports whether two lists of cubes are equal.
func sameCubes(a, b [][]api.Lit) bool {
	return slices.EqualFunc(a, b, slices.Equal)
}

// tells checks what is told of a function with that table.
func tells(w *trial.World, f int, values uint64) {
	w.T.Helper()
	many := w.M.Handles()
	must := essential(w, values)
	l, is, e := cubes.Is(w.M, f)
	want := values != 0 && values == conjunction(w, must)
	if is != want || e != api.OK || is && !slices.Equal(l, must) || !is && len(l) != 0 {
		w.T.Fatalf("Is(%x): %v, %v, %d", values, l, is, e)
	}
	if l, e := cubes.Essential(w.M, f); values != 0 && (e != api.OK || !slices.Equal(l, must)) || values == 0 && (e != api.ErrEmpty || len(l) != 0) {
		w.T.Fatalf("Essential(%x): %v, %d", values, l, e)
	}
	paths := cover(w, values)
	n := len(paths)
	for _, most := range []int{n, n + 1, n - 1, n / 2, 1, 0, -1, math.MinInt, math.MaxInt} {
		got := min(max(most, 0), n)
		l, whole, e := cubes.Cover(w.M, f, most)
		if e != api.OK || whole != (got == n) || !sameCubes(l, paths[:got]) {
			w.T.Fatalf("Cover(%x, %d): %v, %v, %d; want %d of %v", values, most, l, whole, e, got, paths)
		}
	}
	if w.M.Handles() != many {
		w.T.Fatal("handles are left")
	}
}

func TestTheExample(t *testing.T) {
	w := trial.New(t, nil, 2, 100)
	f := w.Right(cubes.Of(w.M, yes(0), no(1)))
	if l, is, e := cubes.Is(w.M, f); !slices.Equal(l, []api.Lit{yes(0), no(1)}) || !is || e != api.OK {
		t.Error(l, is, e)
	}
	or := w.Handle(0b1110)
	l, whole, e := cubes.Cover(w.M, or, 99)
	if !sameCubes(l, [][]api.Lit{{no(0), yes(1)}, {yes(0)}}) || !whole || e != api.OK {
		t.Error(l, whole, e)
	}
	w.Has("Sum", 0b1110)(cubes.Sum(w.M, l...))
	if l, e := cubes.Essential(w.M, or); len(l) != 0 || e != api.OK {
		t.Error(l, e)
	}
	if l, whole, e := cubes.Cover(w.M, 0, 99); len(l) != 0 || !whole || e != api.OK {
		t.Error(l, whole, e)
	}
}

func TestAllFunctionsOfThreeVariables(t *testing.T) {
	w := trial.New(t, nil, 3, 2000)
	var handles []int
	for values := range uint64(256) {
		handles = append(handles, w.Handle(values))
	}
	for level := range 6 {
		for values := range uint64(256) {
			tells(w, handles[values], values)
			l, _, _ := cubes.Cover(w.M, handles[values], api.MaxRows)
			w.Has("Sum", values)(cubes.Sum(w.M, l...))
		}
		w.M.Swap(level % 2)
	}
}

// someCube returns a cube, in any order of its literals.
func someCube(w *trial.World, likely int) (l []api.Lit) {
	for v := range w.M.Vars() {
		if w.R.Intn(likely) > 0 {
			l = slices.Insert(l, w.R.Intn(len(l)+1), api.Lit{Var: v, Yes: w.R.Intn(2) == 0})
		}
	}
	return l
}

func TestRandomCubes(t *testing.T) {
	r := rand.New(rand.NewSource(21))
	for range 300 {
		vars := r.Intn(7)
		w := trial.New(t, r, vars, trial.Enough(vars, 3))
		for range 20 {
			cube := someCube(w, 1+r.Intn(4))
			before := slices.Clone(cube)
			w.Disturb()
			h := w.Right(cubes.Of(w.M, cube...))
			tells(w, h, conjunction(w, cube))
			var l, copies [][]api.Lit
			sum := uint64(0)
			for range r.Intn(6) {
				l = append(l, someCube(w, 2+r.Intn(5)))
				copies = append(copies, slices.Clone(l[len(l)-1]))
				sum |= conjunction(w, l[len(l)-1])
			}
			w.Disturb()
			w.Has("Of", conjunction(w, cube))(cubes.Of(w.M, cube...))
			w.Has("Sum", sum)(cubes.Sum(w.M, l...))
			if !slices.Equal(cube, before) || !sameCubes(l, copies) {
				t.Fatal("an argument has changed")
			}
			w.M.Drop(h)
		}
	}
}

func TestRandomFunctions(t *testing.T) {
	r := rand.New(rand.NewSource(22))
	for range 200 {
		vars := r.Intn(7)
		w := trial.New(t, r, vars, trial.Enough(vars, 3))
		for range 10 {
			values := w.Some()
			for _, lit := range someCube(w, 2) {
				if r.Intn(3) == 0 {
					values &= tableOf(w, lit)
				}
			}
			f := w.Handle(values)
			w.Disturb()
			tells(w, f, values)
			l, whole, e := cubes.Cover(w.M, f, 64)
			if !whole || e != api.OK {
				t.Fatal(whole, e)
			}
			for i, a := range l {
				for _, b := range l[:i] {
					if conjunction(w, a)&conjunction(w, b) != 0 {
						t.Fatalf("the cubes of %x are not disjoint: %v", values, l)
					}
				}
			}
			w.Has("Sum", values)(cubes.Sum(w.M, l...))
			w.M.Drop(f)
		}
	}
}

// Each call makes lists of its own.
func TestCubesShareNoMemory(t *testing.T) {
	w := trial.New(t, nil, 3, 200)
	f := w.Handle(w.Variable(0) ^ w.Variable(1) ^ w.Variable(2))
	want := cover(w, w.Table(f))
	l, _, _ := cubes.Cover(w.M, f, 9)
	for i := range l {
		_ = append(l[i], yes(99))
		for j := range l[:i] {
			l[j][0] = no(99)
		}
		if !slices.Equal(l[i], want[i]) {
			t.Error(i, l[i])
		}
	}
}

func TestMostRows(t *testing.T) {
	m, e := dd.New(14, 100)
	if e != api.OK {
		t.Fatal(e)
	}
	w := &trial.World{T: t, M: m}
	parity := 0
	for v := range 14 {
		x := w.Right(m.Var(13 - v))
		not := w.Right(m.Not(parity))
		next := w.Right(m.Ite(x, not, parity))
		m.Drop(x, not, parity)
		parity = next
		paths := 1 << v
		for _, most := range []int{api.MaxRows, api.MaxRows + 1, math.MaxInt} {
			l, whole, e := cubes.Cover(m, parity, most)
			if len(l) != min(paths, api.MaxRows) || whole != (paths <= api.MaxRows) || e != api.OK {
				t.Fatal(v, len(l), whole, e)
			}
			if whole {
				h := w.Right(cubes.Sum(m, l...))
				w.Same("Sum", h, parity)
				m.Drop(h)
			}
		}
	}
}

func TestWrongArguments(t *testing.T) {
	w := trial.New(t, nil, 3, 100)
	gone := w.Handle(1)
	w.M.Drop(gone)
	for _, bad := range []int{-1, 3, 99, math.MinInt, math.MaxInt} {
		w.Fails("Of", api.ErrVar)(cubes.Of(w.M, no(bad)))
		w.Fails("Of", api.ErrVar)(cubes.Of(w.M, yes(0), no(0), yes(bad)))
		w.Fails("Of", api.ErrVar)(cubes.Of(w.M, yes(bad), no(bad)))
		w.Fails("Sum", api.ErrVar)(cubes.Sum(w.M, nil, []api.Lit{no(bad)}, []api.Lit{no(0), no(0)}))
		w.Fails("Sum", api.ErrTwice)(cubes.Sum(w.M, []api.Lit{yes(0), no(0)}, []api.Lit{no(bad)}))
	}
	w.Fails("Of", api.ErrTwice)(cubes.Of(w.M, no(2), yes(0), no(2)))
	w.Fails("Of", api.ErrTwice)(cubes.Of(w.M, no(1), yes(1)))
	w.Fails("Sum", api.ErrTwice)(cubes.Sum(w.M, []api.Lit{}, []api.Lit{no(1), no(1)}))
	for _, bad := range []int{gone, -1, 99, math.MinInt, math.MaxInt} {
		l, is, e := cubes.Is(w.M, bad)
		rows, whole, e2 := cubes.Cover(w.M, bad, 5)
		must, e3 := cubes.Essential(w.M, bad)
		if len(l)+len(rows)+len(must) > 0 || is || whole || [3]api.Errno{e, e2, e3} != [3]api.Errno{api.ErrHandle, api.ErrHandle, api.ErrHandle} {
			t.Error(bad, e, e2, e3)
		}
	}
	l, is, e := cubes.Is(nil, 1)
	rows, whole, e2 := cubes.Cover(nil, 0, 5)
	must, e3 := cubes.Essential(nil, 0)
	if len(l)+len(rows)+len(must) > 0 || is || whole || [3]api.Errno{e, e2, e3} != [3]api.Errno{api.ErrNone, api.ErrNone, api.ErrNone} {
		t.Error(e, e2, e3)
	}
	for _, call := range []func() (int, api.Errno){
		func() (int, api.Errno) { return cubes.Of(nil) },
		func() (int, api.Errno) { return cubes.Of(nil, no(-1), no(-1)) },
		func() (int, api.Errno) { return cubes.Sum(nil) },
		func() (int, api.Errno) { return cubes.Sum(nil, []api.Lit{no(-1), no(-1)}) },
	} {
		w.Fails("no manager", api.ErrNone)(call())
	}
}

func TestConstants(t *testing.T) {
	for vars := range 3 {
		w := trial.New(t, nil, vars, 20)
		w.Has("Of", w.All())(cubes.Of(w.M))
		w.Has("Sum", 0)(cubes.Sum(w.M))
		w.Has("Sum", w.All())(cubes.Sum(w.M, nil))
		tells(w, 0, 0)
		tells(w, 1, w.All())
	}
}

func TestLittleRoom(t *testing.T) {
	r := rand.New(rand.NewSource(23))
	trial.LittleRoom(t, r,
		func(m *dd.Man, f, g int) (int, api.Errno) { return cubes.Of(m, no(3), yes(0), no(1)) },
		func(m *dd.Man, f, g int) (int, api.Errno) {
			l, _, e := cubes.Cover(m, f, 99)
			if e != api.OK {
				return 0, e
			}
			return cubes.Sum(m, append(l, []api.Lit{yes(r.Intn(5))})...)
		})
}

// With 64 variables nothing must go through all assignments, or all paths.
func TestManyVariables(t *testing.T) {
	m, e := dd.New(64, 50000)
	if e != api.OK {
		t.Fatal(e)
	}
	w := &trial.World{T: t, M: m}
	parity, pairs := 0, 0
	var all []api.Lit
	var twins, singles [][]api.Lit
	for v := range 64 {
		x := w.Right(m.Var(63 - v))
		not := w.Right(m.Not(parity))
		parity = w.Right(m.Ite(x, not, parity))
		all = append(all, api.Lit{Var: v, Yes: v%3 == 0})
		singles = append(singles, []api.Lit{yes(63 - v)})
		if v%2 == 1 {
			twins = append(twins, []api.Lit{yes(v), yes(v - 1)})
			both := w.Right(m.Ite(w.Right(m.Var(v)), w.Right(m.Var(v-1)), 0))
			pairs = w.Right(m.Ite(both, 1, pairs))
		}
	}
	cube := w.Right(cubes.Of(m, all...))
	if l, is, e := cubes.Is(m, cube); !slices.Equal(l, all) || !is || e != api.OK {
		t.Error(l, is, e)
	}
	if l, e := cubes.Essential(m, cube); !slices.Equal(l, all) || e != api.OK {
		t.Error(l, e)
	}
	if l, e := cubes.Essential(m, w.Right(m.Ite(cube, 1, parity))); len(l) != 0 || e != api.OK {
		t.Error(l, e)
	}
	first, whole, e := cubes.Cover(m, parity, 4096)
	if len(first) != 4096 || len(first[0]) != 64 || whole || e != api.OK {
		t.Error(len(first), whole, e)
	}
	part := w.Right(cubes.Sum(m, first...))
	w.Same("some of the paths", w.Right(m.Ite(part, parity, 0)), part)
	if l, whole, e := cubes.Cover(m, part, 5000); !sameCubes(l, first) || !whole || e != api.OK {
		t.Error(len(l), whole, e)
	}
	w.Same("pairs", w.Right(cubes.Sum(m, twins...)), pairs)
	w.Same("a disjunction", w.Right(m.Not(w.Right(cubes.Sum(m, singles...)))), w.Right(cubes.Of(m, negated(singles)...)))
}

// negated returns the opposites of literals.
func negated(l [][]api.Lit) (opposites []api.Lit) {
	for _, cube := range l {
		opposites = append(opposites, no(cube[0].Var))
	}
	return opposites
}
