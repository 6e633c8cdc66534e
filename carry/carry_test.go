package carry_test

import (
	"math"
	"math/rand"
	"slices"
	"testing"

	"voussoir/api"
	"voussoir/carry"
	"voussoir/dd"
	"voussoir/edge"
	"voussoir/trial"
)

func pair(v, to int) api.Pair { return api.Pair{Var: v, To: to} }

func TestTheExample(t *testing.T) {
	w := trial.New(t, nil, 3, 100)
	f := w.Handle(w.Variable(0) & w.Variable(1))
	w.Has("To", w.Variable(2)&w.Variable(1))(carry.To(w.M, f, w.M, pair(0, 2)))
	single := trial.New(t, nil, 1, 100)
	single.Fails("To", api.ErrVar)(carry.To(w.M, f, single.M))
}

// moved returns the table over vars variables of a function with to[v] in place of each variable v.
func moved(values uint64, to []int, vars int) (r uint64) {
	for i := range 1 << vars {
		k := 0
		for v, place := range to {
			k |= i >> place & 1 << v
		}
		r |= values >> k & 1 << i
	}
	return r
}

// missing returns whether a function depends on a variable that has no place.
func missing(values uint64, to []int, vars int) bool {
	for v, place := range to {
		if place >= vars && trial.Depends(values, v) {
			return true
		}
	}
	return false
}

// world returns a world in some order.
func world(t *testing.T, r *rand.Rand, handles int) *trial.World {
	vars := r.Intn(7)
	w := trial.New(t, r, vars, trial.Enough(vars, handles))
	for range 2 * vars {
		w.M.Swap(r.Intn(vars))
	}
	return w
}

func TestRandomFunctions(t *testing.T) {
	r := rand.New(rand.NewSource(27))
	failed := 0
	for range 1500 {
		a, b := world(t, r, 3), world(t, r, 4)
		if r.Intn(4) == 0 {
			b = a
		}
		vars := b.M.Vars()
		values := a.Some()
		f := a.Handle(values)
		to := make([]int, a.M.Vars())
		var l []api.Pair
		for _, v := range r.Perm(len(to)) {
			to[v] = v
			if vars > 0 && r.Intn(2) == 0 {
				to[v] = r.Intn(vars)
				l = append(l, pair(v, to[v]))
			}
		}
		before := slices.Clone(l)
		a.Disturb()
		b.Disturb()
		if missing(values, to, vars) {
			b.Fails("To", api.ErrVar)(carry.To(a.M, f, b.M, l...))
			failed++
		} else {
			for v := range to {
				to[v] = min(to[v], max(vars-1, 0))
			}
			b.Has("To", moved(values, to, vars))(carry.To(a.M, f, b.M, l...))
		}
		if a.Table(f) != values || !slices.Equal(l, before) {
			t.Fatal("an argument has changed")
		}
	}
	if failed < 100 || failed > 1200 {
		t.Error(failed)
	}
}

func TestAllPlacesOfThreeVariables(t *testing.T) {
	a, b := trial.New(t, nil, 3, 2000), trial.New(t, nil, 3, trial.Enough(3, 3))
	for values := range uint64(256) {
		f := a.Handle(values)
		for code := range 27 {
			to := []int{code % 3, code / 3 % 3, code / 9}
			b.Has("To", moved(values, to, 3))(carry.To(a.M, f, b.M, pair(1, to[1]), pair(0, to[0]), pair(2, to[2])))
		}
		a.M.Drop(f)
		a.M.Swap(int(values % 2))
		b.M.Swap(int(values % 3))
	}
}

// Many variables may become few: the result is small, whatever is to be done for it.
func TestManyVariablesBecomeFew(t *testing.T) {
	r := rand.New(rand.NewSource(28))
	const many = 16
	m, e := dd.New(many, 100000)
	if e != api.OK {
		t.Fatal(e)
	}
	wide := &trial.World{T: t, R: r, M: m}
	for round := range 12 {
		seed := r.Int63()
		f := wide.Right(m.Do(func(x *dd.Ctx) edge.Edge { // any function
			r, order := rand.New(rand.NewSource(seed)), m.Order()
			var build func(level int) edge.Edge
			build = func(level int) edge.Edge {
				if level == many {
					return edge.Edge(r.Intn(2))
				}
				lo := build(level + 1)
				return x.Mk(order[level], lo, build(level+1))
			}
			return build(0)
		}))
		vars := round % 6
		b := trial.New(t, r, vars, trial.Enough(vars, 2))
		if vars == 0 {
			b.Fails("To", api.ErrVar)(carry.To(m, f, b.M))
			continue
		}
		var l []api.Pair
		for v := range many {
			l = append(l, pair(v, r.Intn(vars)))
		}
		want := uint64(0)
		for i := range 1 << vars {
			a := make([]bool, many)
			for v, p := range l {
				a[v] = i>>p.To&1 == 1
			}
			if yes, _ := m.Eval(f, a); yes {
				want |= 1 << i
			}
		}
		wide.Disturb()
		b.Disturb()
		b.Has("To", want)(carry.To(m, f, b.M, l...))
		m.Drop(f)
	}
}

func TestThereAndBack(t *testing.T) {
	r := rand.New(rand.NewSource(29))
	for range 400 {
		a, b := world(t, r, 6), trial.New(t, r, 6, trial.Enough(6, 6))
		values := a.Some()
		f := a.Handle(values)
		var there, back []api.Pair
		for v, to := range r.Perm(6)[:a.M.Vars()] {
			there, back = append(there, pair(v, to)), append(back, pair(to, v))
		}
		a.Disturb()
		b.Disturb()
		g := b.Right(carry.To(a.M, f, b.M, there...))
		a.Same("there and back", a.Right(carry.To(b.M, g, a.M, back...)), f)
		plain := b.Right(carry.To(a.M, f, b.M))
		b.Disturb()
		b.Asks("Same", true)(carry.Same(a.M, f, b.M, plain))
		b.Asks("Same", true)(carry.Same(b.M, plain, a.M, f))
		all, e := carry.All(a.M, b.M, f, 1, f, 0)
		if e != api.OK || len(all) != 4 {
			t.Fatal(all, e)
		}
		for i, want := range []int{plain, 1, plain, 0} {
			b.Same("All", b.Right(all[i], e), want)
		}
		if !slices.IsSorted(all) || len(slices.Compact(slices.Clone(all))) != 4 || b.M.Handles() != 8 {
			t.Fatal(all, b.M.Handles())
		}
	}
}

func TestSame(t *testing.T) {
	r := rand.New(rand.NewSource(30))
	equal := 0
	for range 2000 {
		a, b := world(t, r, 3), world(t, r, 3)
		if r.Intn(4) == 0 {
			b = a
		}
		p := a.Some()
		q := b.Some()
		var to []int
		for v := range a.M.Vars() {
			to = append(to, v)
		}
		if r.Intn(3) > 0 && !missing(p, to, b.M.Vars()) {
			q = 0 // p over the variables of b
			for i := range 1 << b.M.Vars() {
				q |= p >> (i & (1<<len(to) - 1)) & 1 << i
			}
			if r.Intn(4) == 0 {
				q ^= 1 << r.Intn(1<<b.M.Vars())
			}
		}
		want := true
		for i := range 64 {
			want = want && p>>(i&(1<<a.M.Vars()-1))&1 == q>>(i&(1<<b.M.Vars()-1))&1
		}
		f, g := a.Handle(p), b.Handle(q)
		a.Disturb()
		b.Disturb()
		waits, order := b.M.Waits(), b.M.Order()
		b.Asks("Same", want)(carry.Same(a.M, f, b.M, g))
		a.Asks("Same", want)(carry.Same(b.M, g, a.M, f))
		if a == b {
			a.Asks("Same", want)(a.M.Same(f, g))
		}
		if want {
			equal++
		}
		if b.M.Waits() != waits || !slices.Equal(b.M.Order(), order) {
			t.Fatal("a comparison has changed a manager")
		}
	}
	if equal < 400 || equal > 1600 {
		t.Error(equal)
	}
}

func TestSameOfAllFunctionsOfTwoVariables(t *testing.T) {
	a, b := trial.New(t, nil, 2, 100), trial.New(t, nil, 3, 200)
	b.M.Swap(0)
	b.M.Swap(1)
	for p := range uint64(16) {
		f := a.Handle(p)
		for q := range uint64(256) {
			g := b.Handle(q)
			b.Asks("Same", q == p|p<<4)(carry.Same(a.M, f, b.M, g))
			b.Asks("Same", q == p|p<<4)(carry.Same(b.M, g, a.M, f))
			b.M.Drop(g)
		}
		a.M.Drop(f)
	}
}

func TestConstants(t *testing.T) {
	a, b := trial.New(t, nil, 0, 1), trial.New(t, nil, 64, 1)
	for k := range 2 {
		a.Has("To", uint64(k))(carry.To(b.M, k, a.M))
		h := b.Right(carry.To(a.M, k, b.M))
		b.Same("To", h, k)
		for n := range 2 {
			a.Asks("Same", k == n)(carry.Same(a.M, k, b.M, n))
		}
	}
	if l, e := carry.All(a.M, b.M); len(l) != 0 || e != api.OK {
		t.Error(l, e)
	}
}

func TestWrongArguments(t *testing.T) {
	a, b := trial.New(t, nil, 4, 100), trial.New(t, nil, 2, 100)
	f := a.Handle(a.Variable(0) & a.Variable(3))
	g := a.Handle(a.Variable(1))
	gone := a.Handle(1)
	a.M.Drop(gone)
	bad := []int{gone, -1, 99, math.MinInt, math.MaxInt}
	for _, h := range bad {
		b.Fails("To", api.ErrHandle)(carry.To(a.M, h, b.M))
		b.Fails("To", api.ErrHandle)(carry.To(a.M, h, b.M, pair(9, 9), pair(0, 0), pair(0, 0)))
		for _, call := range [][2]int{{h, 0}, {0, h}, {h, h}} {
			same, e := carry.Same(a.M, call[0], b.M, call[1])
			if same || e != api.ErrHandle {
				t.Error(call, same, e)
			}
		}
	}
	for _, v := range []int{-1, 4, 99, math.MinInt, math.MaxInt} {
		b.Fails("To", api.ErrVar)(carry.To(a.M, g, b.M, pair(v, 0)))
		b.Fails("To", api.ErrVar)(carry.To(a.M, 1, b.M, pair(0, 0), pair(0, 0), pair(v, 0)))
		b.Fails("To", api.ErrVar)(carry.To(a.M, g, b.M, pair(0, v)))
		b.Fails("To", api.ErrVar)(carry.To(a.M, g, b.M, pair(0, 2)))
		a.Fails("To", api.ErrVar)(carry.To(b.M, 0, a.M, pair(2, 3)))
	}
	b.Fails("To", api.ErrTwice)(carry.To(a.M, f, b.M, pair(1, 0), pair(2, 1), pair(1, 0)))
	b.Fails("To", api.ErrTwice)(carry.To(a.M, 1, b.M, pair(3, 0), pair(3, 1)))
	b.Fails("To", api.ErrVar)(carry.To(a.M, f, b.M))
	b.Fails("To", api.ErrVar)(carry.To(a.M, f, b.M, pair(0, 1), pair(2, 0)))
	b.Has("To", 0b1010)(carry.To(a.M, f, b.M, pair(3, 0)))
	b.Has("To", 0b1100)(carry.To(a.M, g, b.M, pair(3, 0)))
	b.Fails("To", api.ErrNone)(carry.To(nil, f, b.M))
	b.Fails("To", api.ErrNone)(carry.To(a.M, 99, nil, pair(9, 9)))
	for _, e := range []api.Errno{errOf(carry.Same(nil, 0, b.M, 99)), errOf(carry.Same(a.M, 99, nil, 0)), errOf(carry.Same(nil, 0, nil, 0))} {
		if e != api.ErrNone {
			t.Error(e)
		}
	}
}

// errOf returns the error beside an answer, which has to be false.
func errOf(same bool, e api.Errno) api.Errno {
	if same {
		return api.OK
	}
	return e
}

func TestAllFails(t *testing.T) {
	a, b := trial.New(t, nil, 4, 100), trial.New(t, nil, 2, 2)
	f, g := a.Handle(a.Variable(0)&a.Variable(3)), a.Handle(a.Variable(1))
	odd, x0 := a.Handle(a.Variable(0)^a.Variable(1)), a.Handle(a.Variable(0)&^a.Variable(1))
	kept := b.Handle(0b1100)
	for _, x := range []struct {
		a, b *dd.Man
		l    []int
		want api.Errno
	}{
		{nil, b.M, nil, api.ErrNone},
		{a.M, nil, nil, api.ErrNone},
		{nil, b.M, []int{99}, api.ErrNone},
		{a.M, nil, []int{99}, api.ErrNone},
		{a.M, b.M, []int{g, f, 99}, api.ErrVar},
		{a.M, b.M, []int{g, 99, f}, api.ErrHandle},
		{a.M, b.M, []int{g, 1, odd, x0}, api.ErrRoom},
		{a.M, b.M, []int{x0, odd, 99}, api.ErrRoom},
	} {
		l, e := carry.All(x.a, x.b, x.l...)
		if len(l) != 0 || e != x.want || b.M.Handles() != 3 || b.Table(kept) != 0b1100 {
			t.Error(x.l, l, e, b.M.Handles())
		}
	}
	if l, e := carry.All(a.M, b.M, g, odd); len(l) != 2 || e != api.OK || b.Table(l[0]) != 0b1100 || b.Table(l[1]) != 0b0110 {
		t.Error(l, e)
	}
}

func TestLittleRoom(t *testing.T) {
	r := rand.New(rand.NewSource(31))
	trial.LittleRoom(t, r,
		func(m *dd.Man, f, g int) (int, api.Errno) { return carry.To(m, f, m, pair(0, 4), pair(4, 0)) },
		func(m *dd.Man, f, g int) (int, api.Errno) {
			l, e := carry.All(m, m, f, g)
			if e == api.OK {
				m.Drop(l...)
			}
			h, e := carry.To(m, g, m, pair(0, 1), pair(1, 2), pair(2, 0))
			if same, e2 := carry.Same(m, f, m, g); e2 != api.OK || same != same2(m, f, g) {
				t.Fatal(same, e2)
			}
			return h, e
		})
}

// same2 is Same of the manager.
func same2(m *dd.Man, f, g int) bool {
	same, _ := m.Same(f, g)
	return same
}

// pairs returns the disjunction of conjunctions of two variables each; only if the two are neighbours in the order it is small.
func pairs(w *trial.World, l [][2]int) int {
	sum := 0
	for _, p := range l {
		both := w.Right(w.M.Ite(w.Right(w.M.Var(p[0])), w.Right(w.M.Var(p[1])), 0))
		sum = w.Right(w.M.Ite(both, 1, sum))
	}
	return sum
}

func TestManyVariables(t *testing.T) {
	m, e := dd.New(64, 300000)
	n, e2 := dd.New(64, 300000)
	if e != api.OK || e2 != api.OK {
		t.Fatal(e, e2)
	}
	a, b := &trial.World{T: t, M: m}, &trial.World{T: t, M: n}
	for range 3 { // brings variables 8 to 15 of b to the bottom
		for level := 63; level > 8; level-- {
			n.Swap(level - 1)
		}
	}
	var l [][2]int
	for v := range 9 {
		l = append(l, [2]int{v, 16 - v})
	}
	f, g := pairs(a, l), pairs(b, l)
	not := b.Right(n.Not(g))
	l[8] = [2]int{8, 40}
	other := pairs(b, l)
	b.Asks("Same", true)(carry.Same(m, f, n, g))
	b.Asks("Same", false)(carry.Same(m, f, n, not))
	b.Asks("Same", false)(carry.Same(m, f, n, other))
	parity := a.Right(m.Do(func(x *dd.Ctx) edge.Edge {
		r := edge.Zero
		for v := range 64 {
			r = x.Ite(x.Mk(63-v, edge.Zero, edge.One), r.Not(), r)
		}
		return r
	}))
	h := b.Right(carry.To(m, parity, n))
	b.Asks("Same", true)(carry.Same(m, parity, n, h))
	var turned []api.Pair
	for v := range 64 {
		turned = append(turned, pair(v, 63-v))
	}
	b.Same("turned", b.Right(carry.To(m, parity, n, turned...)), h)
	for v := range turned {
		turned[v].To = 7
	}
	b.Same("all to one", b.Right(carry.To(m, parity, n, turned...)), 0)
	b.Same("all to one", b.Right(carry.To(m, parity, n, turned[1:]...)), b.Right(n.Ite(b.Right(n.Var(0)), b.Right(n.Not(b.Right(n.Var(7)))), b.Right(n.Var(7)))))
}

// Even where neither function finds room in the other's manager they can be compared.
func TestSameNeedsNoRoom(t *testing.T) {
	var l [][2]int
	for v := range 10 {
		l = append(l, [2]int{2 * v, 2*v + 1})
	}
	wide, e := dd.New(20, 5000)
	if e != api.OK {
		t.Fatal(e)
	}
	w := &trial.World{T: t, M: wide}
	f := pairs(w, l)
	for v := range 10 {
		for level := 2*v - 1; level >= v; level-- {
			wide.Swap(level) // ends in 0 2 4 .. 1 3 5 ..
		}
	}
	narrow, e := dd.New(20, 60)
	if e != api.OK {
		t.Fatal(e)
	}
	n := &trial.World{T: t, M: narrow}
	h := 0
	for _, p := range l {
		x, y := n.Right(narrow.Var(p[0])), n.Right(narrow.Var(p[1]))
		both := n.Right(narrow.Ite(x, y, 0))
		sum := n.Right(narrow.Ite(both, 1, h))
		narrow.Drop(x, y, both, h)
		h = sum
	}
	n.Asks("Same", true)(carry.Same(wide, f, narrow, h))
	n.Asks("Same", true)(carry.Same(narrow, h, wide, f))
	if narrow.Len() > 60 || wide.Len() < 2000 {
		t.Error(narrow.Len(), wide.Len())
	}
}
