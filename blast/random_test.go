package blast_test

import (
	"math/rand"
	"slices"
	"testing"

	"voussoir/api"
	"voussoir/blast"
	"voussoir/dd"
	"voussoir/edge"
	"voussoir/enc"
	"voussoir/sample"
	"voussoir/terms"
	"voussoir/trial"
)

// world is a manager for a few variables of a model.
type world struct {
	*trial.World
	l enc.Layout
}

// newWorld returns a world for variables of at most four bits, with just enough room for that many handles.
func newWorld(t *testing.T, r *rand.Rand, handles int) world {
	l := layout(t, sample.Vars(r, 3, 16, 4)...)
	vars := min(2*l.Total()+r.Intn(2), 8)
	w := world{trial.New(t, r, vars, trial.Enough(vars, handles)), l}
	for range 2 * vars {
		w.M.Swap(r.Intn(vars))
	}
	return w
}

// at is an assignment to the variables of the manager, with the values that the bits encode.
type at struct {
	l         []bool
	now, next []int // for each variable of the model; those out of its range are no values
}

// everywhere returns all assignments.
func (w world) everywhere() (all []at) {
	for code := range 1 << w.M.Vars() {
		a := at{l: w.Assignment(code)}
		for i, v := range w.l.Vars {
			a.now = append(a.now, v.Lo+number2(a.l, w.l.Now(i)))
			a.next = append(a.next, v.Lo+number2(a.l, w.l.Next(i)))
		}
		all = append(all, a)
	}
	return all
}

// number2 returns the binary number that these variables have, the least significant one first.
func number2(l []bool, vars []int) (n int) {
	for bit, v := range vars {
		if l[v] {
			n |= 1 << bit
		}
	}
	return n
}

// encodes reports whether the values of those variables whose names are given are in their ranges; nil stands for all names.
func (w world) encodes(values []int, names []string) bool {
	for i, v := range w.l.Vars {
		if names != nil && !slices.Contains(names, v.Name) {
			continue
		}
		if hi := max(v.Hi, v.Lo); !v.Bool && values[i] > hi {
			return false
		}
	}
	return true
}

// mended returns values in which those out of their ranges are replaced.
func (w world) mended(values []int) (l []int) {
	for i, v := range w.l.Vars {
		l = append(l, values[i])
		if !v.Bool {
			l[i] = min(values[i], v.Hi)
		}
	}
	return l
}

// value returns the value of a term, if the bits that it reads encode values.
func (w world) value(t api.Term, a at) (n int, read bool) {
	now, next := terms.Names(t)
	if !w.encodes(a.now, append([]string{}, now...)) || !w.encodes(a.next, append([]string{}, next...)) {
		return 0, false
	}
	n, ok := terms.Eval(w.l.Vars, t, w.mended(a.now), w.mended(a.next))
	if !ok {
		w.T.Fatalf("%v has no value", t)
	}
	return n, true
}

// holds returns the value of a function.
func (w world) holds(h int, a at) bool {
	yes, e := w.M.Eval(h, a.l)
	if e != api.OK {
		w.T.Fatal(e)
	}
	return yes
}

// hasCases checks the cases of a term that is a number, and drops them.
func (w world) hasCases(t api.Term) {
	w.T.Helper()
	before := w.M.Handles()
	c, e := blast.Cases(w.M, w.l, t)
	if e != api.OK || w.M.Handles() != before+len(c) {
		w.T.Fatalf("Cases(%v): %d, and %d handles more for %d cases", t, e, w.M.Handles()-before, len(c))
	}
	var values, found []int
	for _, k := range c {
		values = append(values, k.N)
	}
	for _, a := range w.everywhere() {
		var where []int
		for _, k := range c {
			if w.holds(k.H, a) {
				where = append(where, k.N)
			}
		}
		n, read := w.value(t, a)
		if read && !slices.Equal(where, []int{n}) || len(where) > 1 {
			w.T.Fatalf("Cases(%v): %v at %v; want %d", t, where, a, n)
		}
		if w.encodes(a.now, nil) && w.encodes(a.next, nil) {
			found = append(found, n)
		}
	}
	slices.Sort(found)
	if found = slices.Compact(found); !slices.Equal(values, found) {
		w.T.Fatalf("Cases(%v): %v; want %v", t, values, found)
	}
	for _, k := range c {
		w.M.Drop(k.H)
	}
}

// hasTruth checks the function of a Boolean term, and drops it.
func (w world) hasTruth(t api.Term) {
	w.T.Helper()
	before := w.M.Handles()
	h := w.Right(blast.Truth(w.M, w.l, t))
	for _, a := range w.everywhere() {
		n, read := w.value(t, a)
		if got := w.holds(h, a); read && got != (n == 1) || w.M.Handles() != before+1 {
			w.T.Fatalf("Truth(%v): %v at %v, and %d handles more", t, got, a, w.M.Handles()-before)
		}
	}
	w.M.Drop(h)
}

// hasEqual checks the function for variable i and a term, and drops it.
func (w world) hasEqual(i int, t api.Term) {
	w.T.Helper()
	before := w.M.Handles()
	h := w.Right(blast.Equal(w.M, w.l, i, t))
	name := w.l.Vars[i].Name
	for _, a := range w.everywhere() {
		n, read := w.value(t, a)
		want := w.encodes(a.next, []string{name}) && n == a.next[i]
		if got := w.holds(h, a); read && got != want || w.M.Handles() != before+1 {
			w.T.Fatalf("Equal(%s, %v): %v at %v, and %d handles more", name, t, got, a, w.M.Handles()-before)
		}
	}
	w.M.Drop(h)
}

func TestRandomTerms(t *testing.T) {
	r := rand.New(rand.NewSource(38))
	for range 150 {
		w := newWorld(t, r, 12)
		kept := w.Right(w.M.Do(someEdge(r, w.M.Vars())))
		kept2 := w.Right(w.M.Copy(kept))
		for range 4 {
			number := sample.Term(r, w.l.Vars, w.l.Vars, false, 4)
			w.Disturb()
			w.hasCases(number)
			w.Disturb()
			w.hasTruth(sample.Term(r, w.l.Vars, w.l.Vars, true, 4))
			for i, v := range w.l.Vars {
				w.Disturb()
				w.hasEqual(i, sample.Term(r, w.l.Vars, nil, v.Bool, 4))
			}
		}
		w.Same("a function", kept, kept2)
	}
}

func TestValid(t *testing.T) {
	r := rand.New(rand.NewSource(39))
	for range 300 {
		w := newWorld(t, r, 8)
		w.Disturb()
		now, next := w.Right(blast.Valid(w.M, w.l, false)), w.Right(blast.Valid(w.M, w.l, true))
		for _, a := range w.everywhere() {
			if w.holds(now, a) != w.encodes(a.now, nil) || w.holds(next, a) != w.encodes(a.next, nil) {
				t.Fatal(w.l, a)
			}
		}
		if w.M.Handles() != 4 {
			t.Fatal(w.M.Handles())
		}
		union := 0
		for _, a := range w.everywhere() {
			if !w.encodes(a.now, nil) || number2(a.l, w.l.AllNext()) != 0 {
				continue
			}
			w.Disturb()
			h := w.Right(blast.State(w.M, w.l, a.now, false))
			both := w.Right(w.M.Ite(h, union, 0))
			if more := w.M.Vars() - 2*w.l.Total(); more == 0 || !a.l[w.M.Vars()-1] {
				w.Same("disjoint", both, 0)
			}
			sum := w.Right(w.M.Ite(h, 1, union))
			w.M.Drop(h, both, union)
			union = sum
		}
		w.Same("the union", union, now)
	}
}

func TestDerivedProperties(t *testing.T) {
	r := rand.New(rand.NewSource(40))
	for range 80 {
		w := newWorld(t, r, 80)
		both := w.Right(w.M.Ite(w.Right(blast.Valid(w.M, w.l, false)), w.Right(blast.Valid(w.M, w.l, true)), 0))
		there := func(h int) int { return w.Right(w.M.Ite(both, h, 0)) }
		x := sample.Term(r, w.l.Vars, w.l.Vars, false, 4)
		w.Disturb()
		c, e := blast.Cases(w.M, w.l, x)
		if e != api.OK || len(c) == 0 {
			t.Fatal(c, e)
		}
		union := 0
		for _, k := range c {
			h := there(k.H)
			w.Same("disjoint", w.Right(w.M.Ite(h, union, 0)), 0)
			if never, _ := w.M.Same(h, 0); never {
				t.Fatal("a case is true nowhere")
			}
			union = w.Right(w.M.Ite(h, 1, union))
			if k.N >= -api.MaxValue && k.N <= api.MaxValue {
				is := api.Term{Op: api.TEq, Kids: []api.Term{x, {Op: api.TNum, N: k.N}}}
				w.Same("TEq", there(w.Right(blast.Truth(w.M, w.l, is))), h)
			}
		}
		w.Same("the union", union, both)
		w.Disturb()
		q := sample.Term(r, w.l.Vars, w.l.Vars, true, 4)
		yes, no := w.Right(blast.Truth(w.M, w.l, q)), w.Right(blast.Truth(w.M, w.l, api.Term{Op: api.TNot, Kids: []api.Term{q}}))
		w.Same("TNot", there(w.Right(w.M.Not(yes))), there(no))
	}
}

// someEdge returns an operation for a function of many variables.
func someEdge(r *rand.Rand, vars int) func(x *dd.Ctx) edge.Edge {
	seed := r.Int63()
	return func(x *dd.Ctx) edge.Edge {
		r := rand.New(rand.NewSource(seed))
		f := edge.One
		for range 2 * vars {
			v, w := x.Mk(r.Intn(vars), 1, 0), x.Mk(r.Intn(vars), 1, 0)
			f = x.Ite(v, f.Not(), x.Ite(w, f, v))
		}
		return f
	}
}

// Enough room is enough for great terms, too, whose parts have many different cases.
func TestGreatTermsInEnoughRoom(t *testing.T) {
	r := rand.New(rand.NewSource(41))
	for range 25 {
		w := newWorld(t, r, 4)
		if w.M.Vars() > 6 {
			continue
		}
		for range 4 {
			x := great(r, w.l.Vars, 60+r.Intn(300))
			w.hasCases(x)
			w.hasTruth(api.Term{Op: api.TLt, Kids: []api.Term{x, great(r, w.l.Vars, 60)}})
		}
	}
}

// great returns a term with at least that many nodes that is a number.
func great(r *rand.Rand, vars []api.Var, size int) api.Term {
	t := sample.Term(r, vars, vars, false, 4)
	for terms.Size(t) < size {
		more := sample.Term(r, vars, vars, false, 5)
		sum := api.Term{Op: api.TAdd + r.Intn(3), Kids: []api.Term{more, t}}
		if r.Intn(3) == 0 {
			sum.Kids = []api.Term{t, more}
		}
		if r.Intn(8) == 0 {
			sum = api.Term{Op: api.TIf, Kids: []api.Term{sample.Term(r, vars, vars, true, 4), t, more}}
		}
		small := api.Term{Op: api.TMod, Kids: []api.Term{sum, {Op: api.TNum, N: 2 + r.Intn(15)}}}
		if _, e := terms.Type(vars, small, true); e != api.OK {
			return t // too deep
		}
		t = small
	}
	return t
}

// Where there is too little room, a call fails and leaves nothing.
func TestLittleRoom(t *testing.T) {
	r := rand.New(rand.NewSource(42))
	failed, done := 0, 0
	for range 150 {
		l := layout(t, sample.Vars(r, 3, 8, 5)...)
		vars := 2 * l.Total()
		w := world{trial.New(t, r, vars, 1+r.Intn(60)), l}
		number, yes := sample.Term(r, l.Vars, l.Vars, false, 4), sample.Term(r, l.Vars, l.Vars, true, 4)
		kept := 1
		if v, e := w.M.Var(max(vars-1, 0)); e == api.OK {
			kept = v
		}
		before := w.M.Handles()
		for _, call := range []func() (int, api.Errno){
			func() (int, api.Errno) {
				c, e := blast.Cases(w.M, l, number)
				if e != api.OK {
					return len(c), e
				}
				for _, k := range c {
					w.M.Drop(k.H)
				}
				return 0, e
			},
			func() (int, api.Errno) { return blast.Truth(w.M, l, yes) },
			func() (int, api.Errno) { return blast.Valid(w.M, l, r.Intn(2) == 0) },
			func() (int, api.Errno) {
				var s []int
				for _, v := range l.Vars {
					s = append(s, v.Lo)
				}
				return blast.State(w.M, l, s, r.Intn(2) == 0)
			},
			func() (int, api.Errno) {
				if len(l.Vars) == 0 {
					return 0, api.OK
				}
				i := r.Intn(len(l.Vars))
				return blast.Equal(w.M, l, i, sample.Term(r, l.Vars, nil, l.Vars[i].Bool, 3))
			},
		} {
			switch h, e := call(); {
			case e == api.OK:
				done++
				if h > 1 {
					w.M.Drop(h)
				}
			case e != api.ErrRoom || h != 0:
				t.Fatal(h, e)
			default:
				failed++
			}
			if w.M.Handles() != before {
				t.Fatal("handles are left")
			}
			if again, e := w.M.Var(max(vars-1, 0)); kept != 1 && e == api.OK {
				w.Same("a function", kept, again)
				w.M.Drop(again)
			}
		}
	}
	if failed < 50 || done < 100 {
		t.Errorf("%d calls have failed, and %d have not", failed, done)
	}
}

// With great ranges nothing must go through all states.
func TestManyStates(t *testing.T) {
	l := layout(t, number("x", 0, 63), number("y", -32, 31), number("z", 0, 40), number("k", 1, 60), truth("b"), truth("c"))
	m, e := dd.New(2*l.Total(), 1<<18)
	if e != api.OK {
		t.Fatal(e)
	}
	r := rand.New(rand.NewSource(43))
	w := world{&trial.World{T: t, R: r, M: m}, l}
	states := make([]at, 40)
	for i := range states {
		a := at{l: make([]bool, m.Vars())}
		for _, v := range l.Vars {
			span := 2
			if !v.Bool {
				span = v.Hi - v.Lo + 1
			}
			a.now, a.next = append(a.now, v.Lo+r.Intn(span)), append(a.next, v.Lo+r.Intn(span))
		}
		now, _ := l.Code(a.now)
		next, _ := l.Code(a.next)
		for bit := range now {
			a.l[2*bit], a.l[2*bit+1] = now[bit], next[bit]
		}
		states[i] = a
	}
	for _, s := range []string{"x + y < z", "x + y = z + k", "next(x) = x + 1 | b & next(y) != k", "x * y <= 100 -> (z = 3 <-> c)", "(if b then x else y) = next(z)", "x * k mod 7 = z mod 7"} {
		q := term(t, s)
		h := w.Right(blast.Truth(m, l, q))
		for _, a := range states {
			if n, _ := w.value(q, a); w.holds(h, a) != (n == 1) {
				t.Fatalf("%s at %v", s, a)
			}
		}
		m.Drop(h)
	}
	product := term(t, "x * y")
	c, e := blast.Cases(m, l, product)
	if e != api.OK || len(c) < 1000 || m.Handles() != 2+len(c) {
		t.Fatal(len(c), e)
	}
	for _, a := range states {
		n, _ := w.value(product, a)
		for _, k := range c {
			if w.holds(k.H, a) != (k.N == n) {
				t.Fatal(k, a)
			}
		}
	}
}
