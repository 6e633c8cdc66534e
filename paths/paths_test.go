package paths_test

import (
	"fmt"
	"math"
	"math/rand"
	"slices"
	"strconv"
	"testing"

	"voussoir/api"
	"voussoir/defs"
	"voussoir/forms"
	"voussoir/graph"
	"voussoir/paths"
	"voussoir/sample"
	"voussoir/terms"
)

// of returns the graph of a valid model.
func of(t *testing.T, m api.Module) graph.Graph {
	t.Helper()
	g, e := graph.Of(m)
	if e != api.OK {
		t.Fatal(m, e)
	}
	return g
}

const counter = "var x : 0 .. 2; init x = 0; next x := if x = 2 then 0 else x + 1; fair x = 1;"

func TestTheExample(t *testing.T) {
	m := sample.Model(t, counter)
	path := [][]int{{0}, {1}, {2}}
	if !paths.Lasso(m, path, 0) || paths.Lasso(m, path, 2) {
		t.Error("Lasso")
	}
	f, is := sample.Formula(t, "EF [x = 2]"), sample.Formula(t, "[x = 2]")
	tree := api.Tree{Kind: api.KPath, State: []int{0}, F: f, Path: path, At: 2, Kids: []api.Tree{{Kind: api.KPlain, State: []int{2}, F: is}}}
	if c, e := paths.Check(m, f, []int{0}, tree); len(c) != 0 || e != api.OK {
		t.Error(c, e)
	}
}

// around returns lists of values for the variables, in their ranges and just beside, and of wrong lengths.
func around(vars []api.Var) [][]int {
	l := [][]int{{}}
	for _, v := range vars {
		var longer [][]int
		for _, s := range l {
			for n := v.Lo - 1; n <= max(v.Hi, v.Lo)+2; n++ {
				longer = append(longer, append(slices.Clone(s), n))
			}
		}
		l = longer
	}
	if len(vars) > 0 {
		l = append(l, nil, l[0][1:], l[len(l)/2][1:])
	}
	return append(l, append(slices.Clone(l[len(l)/2]), 0), append(slices.Clone(l[len(l)/2]), 1))
}

func TestStatesAndSteps(t *testing.T) {
	r := rand.New(rand.NewSource(51))
	steps := 0
	for range 150 {
		m := sample.Module(r)
		before := fmt.Sprint(m)
		g := of(t, m)
		all := around(m.Vars)
		for _, s := range all {
			i := g.Find(s)
			if paths.Is(m, s) != (i >= 0) || paths.Starts(m, s) != slices.Contains(g.Init, i) {
				t.Fatal(m, s, i)
			}
			var fair []bool
			if i >= 0 {
				fair = g.Fair[i]
			}
			if got := paths.Fair(m, s); !slices.Equal(got, fair) {
				t.Fatal(m, s, got)
			}
			for range 4 {
				n := all[r.Intn(len(all))]
				if i >= 0 && len(g.Next[i]) > 0 && r.Intn(2) == 0 {
					n = g.States[g.Next[i][r.Intn(len(g.Next[i]))]]
				}
				want := i >= 0 && slices.Contains(g.Next[i], g.Find(n)) && g.Find(n) >= 0
				if paths.Step(m, s, n) != want {
					t.Fatal(m, s, n, want)
				}
				if want {
					steps++
				}
			}
		}
		if fmt.Sprint(m) != before {
			t.Fatal("the model has changed")
		}
	}
	if steps < 500 {
		t.Error(steps)
	}
}

// known returns the variables of a model and its definitions as if they were variables.
func known(t *testing.T, m api.Module) []api.Var {
	t.Helper()
	l := slices.Clone(m.Vars)
	for _, d := range m.Defs {
		x, e := defs.Inline(d.E, m.Defs)
		y, e2 := terms.Type(m.Vars, x, false)
		if e != api.OK || e2 != api.OK {
			t.Fatal(d, e, e2)
		}
		l = append(l, api.Var{Name: d.Name, Bool: y.Bool, Lo: y.Lo, Hi: y.Hi})
	}
	return l
}

// value returns the value of a plain formula in a state.
func value(t *testing.T, m api.Module, f api.Form, s []int) bool {
	t.Helper()
	switch f.Op {
	case api.FTerm:
		x, e := defs.Inline(f.E, m.Defs)
		v, ok := terms.Eval(m.Vars, x, s, nil)
		if e != api.OK || !ok {
			t.Fatal(f, e)
		}
		return v == 1
	case api.FNot:
		return !value(t, m, f.Kids[0], s)
	case api.FAnd:
		return value(t, m, f.Kids[0], s) && value(t, m, f.Kids[1], s)
	case api.FOr:
		return value(t, m, f.Kids[0], s) || value(t, m, f.Kids[1], s)
	}
	return !value(t, m, f.Kids[0], s) || value(t, m, f.Kids[1], s)
}

func TestTrue(t *testing.T) {
	r := rand.New(rand.NewSource(52))
	answers := map[[2]bool]int{}
	for range 2000 {
		m := sample.Module(r)
		g := of(t, m)
		if len(g.States) == 0 {
			continue
		}
		f := sample.Form(r, known(t, m), 1+r.Intn(4))
		s := g.States[r.Intn(len(g.States))]
		yes, ok := paths.True(m, f, s)
		if ok != forms.Plain(f) || ok && yes != value(t, m, f, s) || !ok && yes {
			t.Fatal(m, f, s, yes, ok)
		}
		answers[[2]bool{yes, ok}]++
		if yes, ok := paths.True(m, f, append(slices.Clone(s), 0)); yes || ok {
			t.Fatal("what is no state")
		}
	}
	if answers[[2]bool{true, true}] < 200 || answers[[2]bool{false, true}] < 200 || answers[[2]bool{}] < 200 {
		t.Error(answers)
	}
}

func TestWhatTrueRefuses(t *testing.T) {
	m := sample.Model(t, "var x : 0 .. 2; var b : bool; def d := x + 1; def e := b & x = 1; invar x != 2;")
	for s, want := range map[string][2]bool{
		"[b]": {true, true}, "[x = 0]": {false, true}, "[e]": {true, true}, "![e]": {false, true}, "[d = 2] & [b]": {true, true}, "[false] -> [b]": {true, true}, "[e] -> [x = 0]": {false, true}, "[false] | [e]": {true, true},
		"[x]": {}, "[d]": {}, "[y]": {}, "[b] | [x]": {}, "[b] | [y]": {}, "![b] & [d]": {}, "[b] -> [x + b = 1]": {}, "[d mod 0 = 1]": {}, "EX [b]": {}, "[b] | AG [b]": {},
	} {
		if yes, ok := paths.True(m, sample.Formula(t, s), []int{1, 1}); yes != want[0] || ok != want[1] {
			t.Error(s, yes, ok)
		}
	}
	b := sample.Formula(t, "[b]")
	for _, s := range [][]int{nil, {1}, {2, 1}, {3, 1}, {1, 2}, {1, -1}, {1, 1, 1}, {math.MaxInt, 1}} {
		if yes, ok := paths.True(m, b, s); yes || ok {
			t.Error(s)
		}
	}
	for i, f := range []api.Form{{}, {Op: 99}, {Op: api.FNot}, {Op: api.FAnd, Kids: []api.Form{b}}, {Op: api.FTerm, E: api.Term{Op: api.TNext, Name: "b"}}, deep(api.FNot, api.MaxDeep, b), {Op: api.FTerm, E: deepTerm(api.MaxDeep)}} {
		if yes, ok := paths.True(m, f, []int{1, 1}); yes || ok {
			t.Error(i, yes, ok)
		}
	}
	if yes, ok := paths.True(m, deep(api.FNot, api.MaxDeep-1, b), []int{1, 1}); yes || !ok {
		t.Error(yes, ok)
	}
	// With its definition the term is too deep.
	m.Defs = []api.Def{{Name: "d", E: deepTerm(api.MaxDeep - 1)}}
	not := api.Term{Op: api.TNot, Kids: []api.Term{{Op: api.TName, Name: "d"}}}
	if yes, ok := paths.True(m, api.Form{Op: api.FTerm, E: not}, []int{1, 1}); yes || ok {
		t.Error(yes, ok)
	}
	if yes, ok := paths.True(m, sample.Formula(t, "![d]"), []int{1, 1}); !yes || !ok {
		t.Error(yes, ok)
	}
}

// deep returns f below many operators.
func deep(op, many int, f api.Form) api.Form {
	for range many {
		f = api.Form{Op: op, Kids: []api.Form{f}}
	}
	return f
}

// deepTerm returns b below many negations.
func deepTerm(many int) api.Term {
	x := api.Term{Op: api.TName, Name: "b"}
	for range many {
		x = api.Term{Op: api.TNot, Kids: []api.Term{x}}
	}
	return x
}

// isLasso reports whether the states with these indices are a lasso.
func isLasso(g graph.Graph, path []int, loop int) bool {
	if loop < 0 || loop >= len(path) {
		return false
	}
	for i, s := range path {
		next := loop
		if i+1 < len(path) {
			next = i + 1
		}
		if s < 0 || !slices.Contains(g.Next[s], path[next]) {
			return false
		}
	}
	for k := range g.Fair[path[0]] {
		if !slices.ContainsFunc(path[loop:], func(i int) bool { return g.Fair[i][k] }) {
			return false
		}
	}
	return true
}

func TestLasso(t *testing.T) {
	r := rand.New(rand.NewSource(53))
	right, wrong := 0, 0
	for range 4000 {
		m := sample.Module(r)
		g := of(t, m)
		if len(g.States) == 0 {
			continue
		}
		path := []int{r.Intn(len(g.States))}
		for r.Intn(6) > 0 {
			next := g.Next[path[len(path)-1]]
			if len(next) == 0 {
				break
			}
			path = append(path, next[r.Intn(len(next))])
		}
		if r.Intn(8) == 0 {
			path[r.Intn(len(path))] = r.Intn(len(g.States))
		}
		var states [][]int
		for _, i := range path {
			states = append(states, g.States[i])
		}
		for loop := -1; loop <= len(path); loop++ {
			want := isLasso(g, path, loop)
			if paths.Lasso(m, states, loop) != want {
				t.Fatal(m, states, loop, want)
			}
			if want {
				right++
			} else {
				wrong++
			}
		}
	}
	if right < 1000 || wrong < 1000 {
		t.Error(right, wrong)
	}
}

func TestWhatIsNoLasso(t *testing.T) {
	m := sample.Model(t, counter)
	for i, x := range []struct {
		path [][]int
		loop int
		want bool
	}{
		{nil, 0, false}, {[][]int{}, -1, false},
		{[][]int{{0}, {1}, {2}}, 0, true}, {[][]int{{0}, {1}, {2}}, 1, false}, {[][]int{{0}, {1}, {2}}, 3, false}, {[][]int{{0}, {1}, {2}}, -1, false}, {[][]int{{0}, {1}, {2}}, math.MaxInt, false}, {[][]int{{0}, {1}, {2}}, math.MinInt, false},
		{[][]int{{2}, {0}, {1}, {2}}, 1, true}, {[][]int{{0}, {1}, {2}, {0}, {1}, {2}}, 3, true}, {[][]int{{0}, {2}}, 0, false}, {[][]int{{0}, {1}}, 0, false},
		{[][]int{{0}, {1}, {3}}, 0, false}, {[][]int{{0}, {1}, {2}, {3}}, 0, false}, {[][]int{{0}, nil, {2}}, 0, false}, {[][]int{{0}, {1, 1}, {2}}, 0, false}, {[][]int{nil}, 0, false},
	} {
		if paths.Lasso(m, x.path, x.loop) != x.want {
			t.Error(i, x)
		}
	}
	one := sample.Model(t, "var x : bool; fair x; fair x | !x;")
	if !paths.Lasso(one, [][]int{{1}}, 0) || paths.Lasso(one, [][]int{{0}}, 0) || !paths.Lasso(one, [][]int{{1}, {0}}, 0) || paths.Lasso(one, [][]int{{1}, {0}}, 1) {
		t.Error("one state")
	}
	none := sample.Model(t, "")
	if !paths.Lasso(none, [][]int{{}}, 0) || !paths.Lasso(none, [][]int{nil, {}}, 1) || paths.Lasso(none, nil, 0) {
		t.Error("no variables")
	}
}

// A model that is not valid has no states, whatever it is asked for.
func TestInvalidModels(t *testing.T) {
	f := sample.Formula(t, "[true]")
	many := api.Module{}
	for i := range api.MaxParts + 1 {
		many.Vars = append(many.Vars, api.Var{Name: "v" + strconv.Itoa(i)})
	}
	for i, m := range []api.Module{
		sample.Model(t, "var x : 0 .. 2; init x;"), sample.Model(t, "var x : bool; fair y;"), sample.Model(t, "var x : bool; spec s : EX [y];"), sample.Model(t, "var x : bool; def a := b; def b := a;"), {Trans: make([]api.Term, 1)}, many,
	} {
		s := make([]int, len(m.Vars))
		tree := api.Tree{Kind: api.KPlain, State: s, F: f}
		yes, ok := paths.True(m, f, s)
		c, e := paths.Check(m, f, s, tree)
		if paths.Is(m, s) || paths.Starts(m, s) || paths.Step(m, s, s) || len(paths.Fair(m, s)) != 0 || yes || ok || paths.Lasso(m, [][]int{s}, 0) || len(c) != 0 || e != api.ErrArg {
			t.Error(i, e)
		}
		if _, e := paths.Check(m, api.Form{}, nil, api.Tree{}); e != api.ErrArg {
			t.Error(i, e)
		}
	}
}
