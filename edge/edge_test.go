package edge_test

import (
	"math"
	"testing"

	"voussoir/edge"
)

const most = 12 // edges 0 to 11, to nodes 0 to 5

func TestOf(t *testing.T) {
	for _, node := range []int{0, 1, 2, 3, 1000, 1 << 20, 1<<30 - 1, 1 << 30} {
		plain, turned := edge.Of(node, false), edge.Of(node, true)
		if int(plain) != 2*node || int(turned) != 2*node+1 {
			t.Errorf("Of(%d) = %d, %d", node, plain, turned)
		}
		if plain.Node() != node || turned.Node() != node || plain.Neg() || !turned.Neg() {
			t.Errorf("Node or Neg of edges to %d", node)
		}
	}
	for _, node := range []int{-1, -2, -7, math.MinInt} {
		if edge.Of(node, false) != edge.One || edge.Of(node, true) != edge.Zero {
			t.Errorf("Of(%d)", node)
		}
	}
}

func TestMethods(t *testing.T) {
	for e := edge.Edge(0); e < most; e++ {
		if e.Node() != int(e)/2 || e.Neg() != (e%2 == 1) || e.Const() != (e < 2) {
			t.Errorf("edge %d: %d, %v, %v", e, e.Node(), e.Neg(), e.Const())
		}
		other := edge.Of(e.Node(), !e.Neg())
		if e.Not() != other || e.Not().Not() != e || e.Flip(true) != other || e.Flip(false) != e {
			t.Errorf("edge %d: Not %d, Flip %d, %d", e, e.Not(), e.Flip(true), e.Flip(false))
		}
	}
	if edge.One != 0 || edge.Zero != 1 || edge.Of(3, true) != 7 || edge.Edge(7).Not() != 6 {
		t.Error("examples")
	}
}

func TestNegativeEdgesReturn(t *testing.T) {
	odd := []edge.Edge{math.MinInt, math.MinInt + 1, -7, -2, -1, 0, 1, 6, 7, math.MaxInt - 1, math.MaxInt}
	for _, f := range odd {
		if f < 0 && (f.Node() != 0 || f.Neg()) {
			t.Errorf("edge %d: %d, %v", f, f.Node(), f.Neg())
		}
		f.Not()
		f.Flip(true)
		f.Const()
		for _, g := range odd {
			edge.Norm(f, g)
			edge.Meet(f, g)
			for _, h := range odd {
				edge.Ite(f, g, h)
			}
		}
	}
	edge.Of(math.MaxInt, true)
}

// under returns the value of e if the nodes from 1 on have the bits of values.
func under(e edge.Edge, values int) bool {
	return (e.Node() == 0 || values>>(e.Node()-1)&1 == 1) != e.Neg()
}

const assignments = 1 << (most/2 - 1)

func TestNorm(t *testing.T) {
	for lo := edge.Edge(0); lo < most; lo++ {
		for hi := edge.Edge(0); hi < most; hi++ {
			l, h, not := edge.Norm(lo, hi)
			if not != hi.Neg() || h.Neg() || l != lo.Flip(not) || h != hi.Flip(not) {
				t.Errorf("Norm(%d, %d) = %d, %d, %v", lo, hi, l, h, not)
			}
			for values := range assignments {
				if under(l, values) != (under(lo, values) != not) || under(h, values) != (under(hi, values) != not) {
					t.Errorf("Norm(%d, %d) = %d, %d, %v: other values", lo, hi, l, h, not)
				}
			}
		}
	}
	if l, h, not := edge.Norm(4, 7); l != 5 || h != 6 || !not {
		t.Error(l, h, not)
	}
}

// meet answers as the chapter's list of cases does.
func meet(f, g edge.Edge) (edge.Edge, bool) {
	switch {
	case f == 1 || g == 1:
		return 1, true
	case f/2 == g/2 && f != g:
		return 1, true
	case f == 0:
		return g, true
	case g == 0:
		return f, true
	case f == g:
		return f, true
	}
	return 0, false
}

func TestMeet(t *testing.T) {
	for f := edge.Edge(0); f < most; f++ {
		for g := edge.Edge(0); g < most; g++ {
			r, ok := edge.Meet(f, g)
			want, wantOK := meet(f, g)
			if r != want || ok != wantOK {
				t.Errorf("Meet(%d, %d) = %d, %v; want %d, %v", f, g, r, ok, want, wantOK)
			}
			var asF, asG, always, never = true, true, true, true
			for values := range assignments {
				both := under(f, values) && under(g, values)
				if ok && under(r, values) != both {
					t.Errorf("Meet(%d, %d) = %d", f, g, r)
				}
				asF, asG = asF && both == under(f, values), asG && both == under(g, values)
				always, never = always && both, never && !both
			}
			if !ok && (asF || asG || always || never) {
				t.Errorf("Meet(%d, %d) has a result", f, g)
			}
		}
	}
}

type iteResult struct {
	a, b, c edge.Edge
	not     bool
	r       edge.Edge
	done    bool
}

func call(f, g, h edge.Edge) (x iteResult) {
	x.a, x.b, x.c, x.not, x.r, x.done = edge.Ite(f, g, h)
	return x
}

// ite answers as the chapter tells it, step by step.
func ite(f, g, h edge.Edge) iteResult {
	if g == f {
		g = 0
	}
	if g == f^1 {
		g = 1
	}
	if h == f {
		h = 1
	}
	if h == f^1 {
		h = 0
	}
	switch {
	case f == 0 || g == h:
		return iteResult{r: g, done: true}
	case f == 1:
		return iteResult{r: h, done: true}
	case g == 0 && h == 1:
		return iteResult{r: f, done: true}
	case g == 1 && h == 0:
		return iteResult{r: f ^ 1, done: true}
	}
	if f%2 == 1 {
		f, g, h = f^1, h, g
	}
	if g%2 == 1 {
		return iteResult{a: f, b: g ^ 1, c: h ^ 1, not: true}
	}
	return iteResult{a: f, b: g, c: h}
}

func TestIte(t *testing.T) {
	for f := edge.Edge(0); f < most; f++ {
		for g := edge.Edge(0); g < most; g++ {
			for h := edge.Edge(0); h < most; h++ {
				x := call(f, g, h)
				if x != ite(f, g, h) {
					t.Errorf("Ite(%d, %d, %d) = %v; want %v", f, g, h, x, ite(f, g, h))
				}
				if !x.done && (x.a.Neg() || x.b.Neg()) {
					t.Errorf("Ite(%d, %d, %d) = %v: not canonical", f, g, h, x)
				}
				for values := range assignments {
					if valueOf(x, values) != choice(f, g, h, values) {
						t.Errorf("Ite(%d, %d, %d) = %v: other values", f, g, h, x)
					}
				}
			}
		}
	}
}

func choice(f, g, h edge.Edge, values int) bool {
	if under(f, values) {
		return under(g, values)
	}
	return under(h, values)
}

func valueOf(x iteResult, values int) bool {
	if x.done {
		return under(x.r, values)
	}
	return choice(x.a, x.b, x.c, values) != x.not
}

func TestIteExamples(t *testing.T) {
	if x := call(6, 6, 1); x != (iteResult{r: 6, done: true}) {
		t.Error(x)
	}
	if x := call(7, 4, 9); x != (iteResult{a: 6, b: 8, c: 5, not: true}) {
		t.Error(x)
	}
}
