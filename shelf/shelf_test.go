package shelf_test

import (
	"math/rand"
	"testing"

	"voussoir/api"
	"voussoir/edge"
	"voussoir/perm"
	"voussoir/shelf"
	"voussoir/trial"
)

// table returns the table of a function on a shelf whose variables are those of w.
func table(w *trial.World, s *shelf.Shelf, f edge.Edge) (values uint64) {
	for i := range 1 << w.M.Vars() {
		at := f
		for !at.Const() {
			n := s.At(at.Node())
			way := n.Lo
			if i>>n.Var&1 == 1 {
				way = n.Hi
			}
			at = way.Flip(at.Neg())
		}
		if at == edge.One {
			values |= 1 << i
		}
	}
	return values
}

// take puts a function of w on a shelf.
func take(w *trial.World, s *shelf.Shelf, h int) edge.Edge {
	w.T.Helper()
	f, e := s.Take(w.M, h)
	if e != api.OK {
		w.T.Fatal(h, e)
	}
	return f
}

// sound checks that no two nodes of a shelf are the same, that each stands behind those to which it leads, and that none is superfluous.
func sound(t *testing.T, s *shelf.Shelf) {
	t.Helper()
	met := map[shelf.Node]bool{}
	for i := 1; i < s.Len(); i++ {
		n := s.At(i)
		if met[n] || n.Lo == n.Hi || n.Hi.Neg() || n.Lo.Node() >= i || n.Hi.Node() >= i {
			t.Fatal(i, n)
		}
		met[n] = true
	}
}

func TestFunctions(t *testing.T) {
	r := rand.New(rand.NewSource(1))
	for range 200 {
		vars := r.Intn(7)
		w := trial.New(t, r, vars, trial.Enough(vars, 5))
		s := shelf.New()
		w.Disturb()
		a, b := w.Some(), w.Some()
		g, h := w.Handle(a), w.Handle(b)
		w.Disturb()
		order, many, waits := w.M.Order(), w.M.Len(), w.M.Waits()
		x, y := take(w, s, g), take(w, s, h)
		if table(w, s, x) != a || table(w, s, y) != b || take(w, s, g) != x || (x == y) != (a == b) {
			t.Fatalf("%x, %x", table(w, s, x), table(w, s, y))
		}
		fix := s.Fixer(perm.Inverse(order))
		for range 10 {
			v := r.Intn(vars + 2) // some are no variables
			for value, yes := range []bool{false, true} {
				want, want2 := trial.Cofactor(a, min(v, 6), value), trial.Cofactor(b, min(v, 6), value)
				if v >= vars {
					want, want2 = a, b
				}
				f := fix(x, v, yes)
				if table(w, s, f) != want&w.All() || table(w, s, fix(y, v, yes)) != want2&w.All() || fix(x.Not(), v, yes) != f.Not() {
					t.Fatalf("%x where %d is %v: %x", a, v, yes, table(w, s, f))
				}
			}
		}
		sound(t, s)
		if w.M.Len() != many || w.M.Waits() != waits {
			t.Fatal("the manager has changed")
		}
	}
}

func TestPut(t *testing.T) {
	s := shelf.New()
	x := s.Put(3, edge.Zero, edge.One)
	if s.Put(3, edge.One, edge.Zero) != x.Not() || s.Put(1, x, x) != x || s.Put(3, edge.Zero, edge.One) != x || s.Len() != 2 || s.At(x.Node()).Var != 3 {
		t.Error(x, s.Len())
	}
	y := s.Put(1, x, edge.Zero)
	if n := s.At(y.Node()); y != edge.Of(2, true) || n != (shelf.Node{Var: 1, Lo: x.Not(), Hi: edge.One}) {
		t.Error(y, n)
	}
	sound(t, s)
}

func TestWrongArguments(t *testing.T) {
	s := shelf.New()
	if f, e := s.Take(nil, 0); f != 0 || e != api.ErrNone {
		t.Error(f, e)
	}
	w := trial.New(t, nil, 1, 9)
	if f, e := s.Take(w.M, 2); f != 0 || e != api.ErrHandle || s.Len() != 1 {
		t.Error(f, e)
	}
	if take(w, s, 0) != edge.Zero || take(w, s, 1) != edge.One || s.Len() != 1 {
		t.Error(s.Len())
	}
}
