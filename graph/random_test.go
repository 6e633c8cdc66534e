package graph_test

import (
	"math/rand"
	"slices"
	"testing"

	"voussoir/api"
	"voussoir/defs"
	"voussoir/graph"
	"voussoir/modtext"
	"voussoir/sample"
	"voussoir/terms"
)

// explicit returns the state graph of a model, found by asking terms for values.
func explicit(t *testing.T, m api.Module) (g graph.Graph) {
	t.Helper()
	all := [][]int{{}}
	for _, v := range m.Vars {
		lo, hi := v.Lo, v.Hi
		if v.Bool {
			lo, hi = 0, 1
		}
		var longer [][]int
		for _, s := range all {
			for n := lo; n <= hi; n++ {
				longer = append(longer, append(slices.Clone(s), n))
			}
		}
		all = longer
	}
	value := func(x api.Term, s, n []int) int {
		x, e := defs.Inline(x, m.Defs)
		v, ok := terms.Eval(m.Vars, x, s, n)
		if e != api.OK || !ok {
			t.Fatal(x, e)
		}
		return v
	}
	each := func(l []api.Term, s, n []int) bool {
		return !slices.ContainsFunc(l, func(x api.Term) bool { return value(x, s, n) == 0 })
	}
	for _, s := range all {
		if each(m.Invar, s, nil) {
			g.States = append(g.States, s)
		}
	}
	for i, s := range g.States {
		var next []int
		var fair []bool
		for k, n := range g.States {
			wrong := func(d api.Def) bool {
				v := slices.IndexFunc(m.Vars, func(v api.Var) bool { return v.Name == d.Name })
				return n[v] != value(d.E, s, nil)
			}
			if each(m.Trans, s, n) && !slices.ContainsFunc(m.Next, wrong) {
				next = append(next, k)
			}
		}
		for _, x := range m.Fair {
			fair = append(fair, value(x, s, nil) == 1)
		}
		if each(m.Init, s, nil) {
			g.Init = append(g.Init, i)
		}
		g.Next, g.Fair = append(g.Next, next), append(g.Fair, fair)
	}
	return g
}

// ways returns, for each state for which in is true, what it reaches among these; each reaches itself.
func ways(g graph.Graph, in []bool) [][]bool {
	reach := make([][]bool, len(g.States))
	for i := range reach {
		reach[i] = make([]bool, len(g.States))
		reach[i][i] = in[i]
		for _, k := range g.Next[i] {
			reach[i][k] = reach[i][k] || in[i] && in[k]
		}
	}
	for via := range reach {
		for i := range reach {
			for k := range reach {
				reach[i][k] = reach[i][k] || reach[i][via] && reach[via][k]
			}
		}
	}
	return reach
}

// parts returns the components of the states for which in is true.
func parts(g graph.Graph, in []bool) (l [][]int) {
	reach := ways(g, in)
	for i := range reach {
		var part []int
		for k := range reach {
			if reach[i][k] && reach[k][i] {
				part = append(part, k)
			}
		}
		if len(part) > 0 && part[0] == i {
			l = append(l, part)
		}
	}
	return l
}

func TestRandomModels(t *testing.T) {
	r := rand.New(rand.NewSource(40))
	many, large := 0, 0
	for range 800 {
		m := sample.Module(r)
		before, _ := modtext.Show(m)
		want := explicit(t, m)
		g, e := graph.Of(m)
		after, _ := modtext.Show(m)
		if e != api.OK || !same(g.States, want.States) || !same(g.Next, want.Next) || !slices.Equal(g.Init, want.Init) || !same(g.Fair, want.Fair) || before != after {
			t.Fatalf("%s: %v, %d; want %v", before, g, e, want)
		}
		answers(t, r, g)
		if len(g.States) > 5 {
			many++
		}
		in := make([]bool, len(g.States))
		for i := range in {
			in[i] = true
		}
		if len(g.Parts(in)) < len(g.States) && len(g.Parts(in)) > 1 {
			large++
		}
	}
	if many < 150 || large < 80 {
		t.Error(many, large)
	}
}

// answers checks the methods of a graph.
func answers(t *testing.T, r *rand.Rand, g graph.Graph) {
	t.Helper()
	all := make([]bool, len(g.States))
	prev := make([][]int, len(g.States))
	for i, s := range g.States {
		all[i] = true
		if g.Find(s) != i {
			t.Fatal(i, s, g.Find(s))
		}
		for _, k := range g.Next[i] {
			prev[k] = append(prev[k], i)
		}
	}
	if got := g.Prev(); !same(got, prev) {
		t.Fatalf("%v: %v", g, got)
	}
	reach := ways(g, all)
	for range 3 {
		var from []int
		want, in := make([]bool, len(g.States)), make([]bool, len(g.States))
		for i := range g.States {
			if in[i] = r.Intn(3) > 0; r.Intn(8) == 0 {
				from = append(from, i)
				for k := range want {
					want[k] = want[k] || reach[i][k]
				}
			}
		}
		got := g.Reach(from...)
		if !slices.Equal(got, want) {
			t.Fatalf("%v from %v: %v", g, from, got)
		}
		for i, next := range g.Next {
			for _, k := range next {
				if got[i] && !got[k] {
					t.Fatal("what is reachable isn't closed")
				}
			}
		}
		if got := g.Parts(in); !same(got, parts(g, in)) {
			t.Fatalf("%v within %v: %v", g, in, got)
		}
	}
	if got := g.Parts(all); !same(got, parts(g, all)) {
		t.Fatalf("%v: %v", g, got)
	}
}
