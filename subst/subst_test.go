package subst_test

import (
	"math"
	"math/rand"
	"slices"
	"testing"

	"voussoir/api"
	"voussoir/dd"
	"voussoir/subst"
	"voussoir/trial"
)

// put returns the table of a function with functions in place of variables, of which only these are given.
func put(w *trial.World, values uint64, images map[int]uint64) (r uint64) {
	for i := range 1 << w.M.Vars() {
		j := i
		for v, image := range images {
			j = j&^(1<<v) | int(image>>i&1)<<v
		}
		r |= values >> j & 1 << i
	}
	return r
}

func pair(v, to int) api.Pair { return api.Pair{Var: v, To: to} }

func TestTheExample(t *testing.T) {
	w := trial.New(t, nil, 2, 100)
	f := w.Handle(0b1000)
	w.Has("Rename", 0b1000)(subst.Rename(w.M, f, pair(0, 1), pair(1, 0)))
	w.Has("Compose", 0)(subst.Compose(w.M, f, 1, 0))
}

func TestRandomFunctions(t *testing.T) {
	r := rand.New(rand.NewSource(16))
	for range 300 {
		vars := r.Intn(7)
		w := trial.New(t, r, vars, trial.Enough(vars, 12))
		for range 20 {
			values := w.Some()
			f := w.Handle(values)
			var to, names []api.Pair
			var vars []int
			images, others, flips := map[int]uint64{}, map[int]uint64{}, map[int]uint64{}
			for _, v := range r.Perm(w.M.Vars())[:r.Intn(w.M.Vars()+1)] {
				images[v] = w.Some()
				to = append(to, pair(v, w.Handle(images[v])))
				other := r.Intn(w.M.Vars())
				others[v] = w.Variable(other)
				names = append(names, pair(v, other))
				flips[v] = ^w.Variable(v)
				vars = append(vars, v)
				vars = append(vars, vars[:r.Intn(2)]...)
			}
			givenTo, givenNames, givenVars := slices.Clone(to), slices.Clone(names), slices.Clone(vars)
			w.Disturb()
			w.Has("Vector", put(w, values, images))(subst.Vector(w.M, f, to...))
			w.Has("Rename", put(w, values, others))(subst.Rename(w.M, f, names...))
			w.Disturb()
			w.Has("Flip", put(w, values, flips))(subst.Flip(w.M, f, vars...))
			for _, p := range to {
				w.Has("Compose", put(w, values, map[int]uint64{p.Var: images[p.Var]}))(subst.Compose(w.M, f, p.Var, p.To))
			}
			if !slices.Equal(to, givenTo) || !slices.Equal(names, givenNames) || !slices.Equal(vars, givenVars) {
				t.Fatal("an argument has changed")
			}
			w.DropAll()
		}
	}
}

// The functions that are put in place may depend on the variables that are replaced, and on the function itself.
func TestSimultaneously(t *testing.T) {
	w := trial.New(t, nil, 3, trial.Enough(3, 20))
	const A, B, C = 0b10101010, 0b11001100, 0b11110000
	f := w.Handle(A &^ B)
	b, c, both := w.Handle(B), w.Handle(C), w.Handle(A&B)
	w.Has("swapped", B&^A)(subst.Rename(w.M, f, pair(0, 1), pair(1, 0)))
	w.Has("moved on", B&^C)(subst.Rename(w.M, f, pair(1, 2), pair(0, 1)))
	w.Has("moved back", C&^A)(subst.Rename(w.M, f, pair(1, 0), pair(0, 2)))
	w.Has("both to one", 0)(subst.Rename(w.M, f, pair(0, 2), pair(1, 2)))
	w.Has("to itself", A&^B)(subst.Rename(w.M, f, pair(0, 0), pair(1, 1), pair(2, 0)))
	w.Has("nothing", A&^B)(subst.Rename(w.M, f))
	w.Has("nothing", A&^B)(subst.Vector(w.M, f))
	w.Has("nothing", A&^B)(subst.Flip(w.M, f))
	w.Has("itself in place", A&^B)(subst.Vector(w.M, f, pair(0, f)))
	w.Has("itself in place", ^uint64(A)|B)(subst.Vector(w.M, f, pair(1, f), pair(0, 1)))
	w.Has("what is replaced", B&^(A&B))(subst.Vector(w.M, f, pair(0, b), pair(1, both)))
	w.Has("what is replaced", A&B&^C)(subst.Vector(w.M, f, pair(1, c), pair(0, both)))
	w.Has("constants", 0xff)(subst.Vector(w.M, f, pair(1, 0), pair(0, 1)))
	w.Has("all", ^uint64(A)&B)(subst.Flip(w.M, f, 0, 1, 2, 1, 0))
	w.Has("one", A&B)(subst.Flip(w.M, f, 1))
	w.Has("one", A&^C)(subst.Compose(w.M, f, 1, c))
	w.Has("a constant", 0)(subst.Compose(w.M, 0, 2, c))
	w.Has("a constant", 0xff)(subst.Flip(w.M, 1, 2))
}

func TestDerivedProperties(t *testing.T) {
	r := rand.New(rand.NewSource(17))
	w := trial.New(t, r, 5, trial.Enough(5, 20))
	for range 300 {
		f, g := w.Handle(trial.Cofactor(w.Some(), 3, 0)), w.Handle(w.Some())
		w.Disturb()
		once := w.Right(subst.Flip(w.M, f, 1, 4, 0))
		twice := w.Right(subst.Flip(w.M, once, 4, 0, 1, 1))
		for _, h := range []int{twice, w.Right(subst.Compose(w.M, f, 3, g)), w.Right(subst.Vector(w.M, f, pair(3, g))), w.Right(subst.Rename(w.M, f, pair(3, 1))), w.Right(subst.Flip(w.M, f, 3))} {
			w.Same("as before", h, f)
		}
		w.DropAll()
	}
}

func TestWrongArguments(t *testing.T) {
	w := trial.New(t, nil, 3, 100)
	f := w.Handle(0x5c)
	gone := w.Handle(1)
	w.M.Drop(gone)
	for _, bad := range []int{gone, -1, 99, math.MinInt, math.MaxInt} {
		w.Fails("Compose", api.ErrHandle)(subst.Compose(w.M, bad, 0, f))
		w.Fails("Compose", api.ErrHandle)(subst.Compose(w.M, f, 0, bad))
		w.Fails("Compose", api.ErrHandle)(subst.Compose(w.M, f, 3, bad))
		w.Fails("Compose", api.ErrVar)(subst.Compose(w.M, f, 3+max(bad, 0), f))
		w.Fails("Vector", api.ErrHandle)(subst.Vector(w.M, bad))
		w.Fails("Vector", api.ErrHandle)(subst.Vector(w.M, bad, pair(3, f)))
		w.Fails("Vector", api.ErrHandle)(subst.Vector(w.M, f, pair(0, bad)))
		w.Fails("Vector", api.ErrHandle)(subst.Vector(w.M, f, pair(0, f), pair(2, bad), pair(3, f)))
		w.Fails("Vector", api.ErrHandle)(subst.Vector(w.M, f, pair(0, f), pair(0, bad)))
		w.Fails("Rename", api.ErrHandle)(subst.Rename(w.M, bad, pair(3, 3), pair(0, 1), pair(0, 1)))
		w.Fails("Flip", api.ErrHandle)(subst.Flip(w.M, bad, 5))
	}
	for _, bad := range []int{-1, 3, 99, math.MinInt, math.MaxInt} {
		w.Fails("Compose", api.ErrVar)(subst.Compose(w.M, f, bad, 1))
		w.Fails("Vector", api.ErrVar)(subst.Vector(w.M, f, pair(bad, f)))
		w.Fails("Vector", api.ErrVar)(subst.Vector(w.M, f, pair(bad, 99)))
		w.Fails("Vector", api.ErrVar)(subst.Vector(w.M, f, pair(0, f), pair(0, f), pair(bad, 0)))
		w.Fails("Rename", api.ErrVar)(subst.Rename(w.M, f, pair(bad, 0)))
		w.Fails("Rename", api.ErrVar)(subst.Rename(w.M, f, pair(0, bad)))
		w.Fails("Rename", api.ErrVar)(subst.Rename(w.M, f, pair(0, 1), pair(0, 1), pair(2, bad)))
		w.Fails("Flip", api.ErrVar)(subst.Flip(w.M, f, bad))
		w.Fails("Flip", api.ErrVar)(subst.Flip(w.M, f, 0, 0, bad))
	}
	w.Fails("Vector", api.ErrTwice)(subst.Vector(w.M, f, pair(1, 0), pair(1, 1)))
	w.Fails("Vector", api.ErrTwice)(subst.Vector(w.M, f, pair(0, f), pair(1, f), pair(0, f)))
	w.Fails("Rename", api.ErrTwice)(subst.Rename(w.M, f, pair(1, 0), pair(1, 0)))
	w.Fails("Rename", api.ErrTwice)(subst.Rename(w.M, 0, pair(2, 0), pair(0, 1), pair(2, 1)))
	for _, call := range []func() (int, api.Errno){
		func() (int, api.Errno) { return subst.Compose(nil, 0, 0, 0) },
		func() (int, api.Errno) { return subst.Compose(nil, 9, -1, 9) },
		func() (int, api.Errno) { return subst.Vector(nil, 1) },
		func() (int, api.Errno) { return subst.Vector(nil, 1, pair(9, 9), pair(9, 9)) },
		func() (int, api.Errno) { return subst.Rename(nil, 1, pair(0, 0)) },
		func() (int, api.Errno) { return subst.Flip(nil, 7, 0) },
	} {
		w.Fails("no manager", api.ErrNone)(call())
	}
}

func TestLittleRoom(t *testing.T) {
	trial.LittleRoom(t, rand.New(rand.NewSource(18)),
		func(m *dd.Man, f, g int) (int, api.Errno) { return subst.Compose(m, f, 2, g) },
		func(m *dd.Man, f, g int) (int, api.Errno) { return subst.Rename(m, f, pair(1, 0), pair(2, 1)) },
		func(m *dd.Man, f, g int) (int, api.Errno) { return subst.Flip(m, g, 3) })
}

// With 64 variables an operation must not go through all assignments, or all paths.
func TestManyVariables(t *testing.T) {
	m, e := dd.New(64, 50000)
	if e != api.OK {
		t.Fatal(e)
	}
	w := &trial.World{T: t, M: m}
	parity := 0
	var shift []api.Pair
	var all []int
	for v := range 64 {
		x := w.Right(m.Var(v))
		not := w.Right(m.Not(parity))
		parity = w.Right(m.Ite(x, not, parity))
		shift = append(shift, pair(v, (v+31)%64))
		all = append(all, v)
	}
	odd := w.Right(m.Not(parity))
	for _, h := range []int{w.Right(subst.Rename(m, parity, shift...)), w.Right(subst.Flip(m, parity, all...)), w.Right(subst.Flip(m, odd, 63)), w.Right(subst.Vector(m, odd, pair(62, w.Right(m.Not(w.Right(m.Var(62)))))))} {
		w.Same("as before", h, parity)
	}
	for v := range 63 {
		parity = w.Right(subst.Rename(m, parity, pair(v, 63)))
	}
	w.Same("64 times one variable", parity, 0)
}
