package graph_test

import (
	"math"
	"slices"
	"strconv"
	"strings"
	"testing"

	"voussoir/api"
	"voussoir/graph"
	"voussoir/sample"
)

// of returns the state graph of a text.
func of(t *testing.T, s string) graph.Graph {
	t.Helper()
	g, e := graph.Of(sample.Model(t, s))
	if e != api.OK {
		t.Fatalf("%s: %d", s, e)
	}
	return g
}

// same reports whether two lists of lists are equal.
func same[T comparable](a, b [][]T) bool {
	return slices.EqualFunc(a, b, slices.Equal[[]T])
}

func TestTheExample(t *testing.T) {
	g := of(t, "var x : 0 .. 2; next x := if x < 2 then x + 1 else 0; init x = 0;")
	if !same(g.States, [][]int{{0}, {1}, {2}}) || !same(g.Next, [][]int{{1}, {2}, {0}}) || !slices.Equal(g.Init, []int{0}) || !same(g.Fair, [][]bool{{}, {}, {}}) {
		t.Error(g)
	}
	if r := g.Reach(1); !slices.Equal(r, []bool{true, true, true}) {
		t.Error(r)
	}
	if p := g.Parts([]bool{true, true, true}); !same(p, [][]int{{0, 1, 2}}) {
		t.Error(p)
	}
}

func TestGraphs(t *testing.T) {
	for s, want := range map[string]graph.Graph{
		"var x : bool; init !x; next x := !x; fair x; fair !x;": {
			States: [][]int{{0}, {1}}, Next: [][]int{{1}, {0}}, Init: []int{0}, Fair: [][]bool{{false, true}, {true, false}},
		},
		// Beyond its range a variable has no value, so there is no transition.
		"var x : 0 .. 2; next x := x + 1;": {
			States: [][]int{{0}, {1}, {2}}, Next: [][]int{{1}, {2}, nil}, Init: []int{0, 1, 2}, Fair: make([][]bool, 3),
		},
		"": {
			States: [][]int{{}}, Next: [][]int{{0}}, Init: []int{0}, Fair: make([][]bool, 1),
		},
		"trans false; fair true; init false;": {
			States: [][]int{{}}, Next: [][]int{{}}, Fair: [][]bool{{true}},
		},
		"var x : bool; invar false;": {},
		"var a : bool; var n : -1 .. 0; invar a -> n = 0; trans next(n) <= n; def d := n + 1; fair d = 1; fair a;": {
			States: [][]int{{0, -1}, {0, 0}, {1, 0}}, Next: [][]int{{0}, {0, 1, 2}, {0, 1, 2}}, Init: []int{0, 1, 2},
			Fair: [][]bool{{false, false}, {true, false}, {true, true}},
		},
		// A variable of a single value, and one without a next declaration.
		"var k : 7 .. 7; var a : bool; next k := if a then 7 else 6; init a; trans a | next(a);": {
			States: [][]int{{7, 0}, {7, 1}}, Next: [][]int{{}, {0, 1}}, Init: []int{1}, Fair: make([][]bool, 2),
		},
	} {
		g := of(t, s)
		if !same(g.States, want.States) || !same(g.Next, want.Next) || !slices.Equal(g.Init, want.Init) || !same(g.Fair, want.Fair) {
			t.Errorf("%s: %v; want %v", s, g, want)
		}
		if len(g.Next) != len(g.States) || len(g.Fair) != len(g.States) || len(g.Prev()) != len(g.States) {
			t.Errorf("%s: %v", s, g)
		}
	}
}

// variables returns declarations of variables with so many values.
func variables(spans ...int) string {
	var b strings.Builder
	for i, span := range spans {
		b.WriteString("var v" + strconv.Itoa(i) + " : 1 .. " + strconv.Itoa(span) + ";")
	}
	return b.String()
}

func TestWrongModels(t *testing.T) {
	for s, want := range map[string]api.Errno{
		"var x : bool; init y;":                api.ErrName,
		"var x : bool; var x : bool;":          api.ErrTwice,
		"var x : bool; init x + 1;":            api.ErrType,
		"var x : bool; init next(x);":          api.ErrPlace,
		"def a := b; def b := a;":              api.ErrCycle,
		"var x : 3 .. 2;":                      api.ErrRange,
		"spec s : EF [y];":                     api.ErrName,
		variables(64, 64, 64, 64, 64, 2):       api.ErrMany,
		variables(64, 64, 64, 64, 64):          api.ErrMany,
		variables(64, 64, 2):                   api.ErrMany,
		variables(17, 61, 4):                   api.ErrMany, // 4148
		variables(17, 61, 4) + "invar v2 = 1;": api.ErrMany,
		variables(17, 61, 4) + "invar v2;":     api.ErrType,
	} {
		g, e := graph.Of(sample.Model(t, s))
		if e != want || g.States != nil || g.Next != nil || g.Init != nil || g.Fair != nil {
			t.Errorf("%s: %d; want %d", s, e, want)
		}
	}
	if _, e := graph.Of(api.Module{Vars: []api.Var{{Name: "x", Bool: true, Lo: 1}}}); e != api.ErrForm {
		t.Error(e)
	}
}

// As many states as there may be, and nearly all pairs of them are looked at.
func TestMostStates(t *testing.T) {
	g := of(t, variables(64, 64)+"trans next(v0) + next(v1) = v0 + v1 & (v0 < next(v0) | next(v1) - v1 = 63); init v0 = v1;")
	if len(g.States) != api.MaxStates || len(g.Init) != 64 {
		t.Fatal(len(g.States), len(g.Init))
	}
	for i, s := range g.States {
		var want []int
		for n := s[0] + 1; n <= 64 && s[1]-(n-s[0]) >= 1; n++ {
			want = append(want, 64*(n-1)+s[1]-(n-s[0])-1)
		}
		if s[0] == 64 && s[1] == 1 {
			want = append(want, 63) // 1, 64
		}
		slices.Sort(want)
		if i != 64*(s[0]-1)+s[1]-1 || g.Find(s) != i || !slices.Equal(g.Next[i], want) {
			t.Fatal(i, s, g.Next[i], want)
		}
	}
	chain := of(t, variables(64, 64)+"next v1 := if v1 < 64 then v1 + 1 else 1; next v0 := if v1 < 64 then v0 else if v0 < 64 then v0 + 1 else 1;")
	all := make([]bool, api.MaxStates)
	for i, next := range chain.Next {
		all[i] = true
		if !slices.Equal(next, []int{(i + 1) % api.MaxStates}) {
			t.Fatal(i, next)
		}
	}
	if p := chain.Parts(all); len(p) != 1 || len(p[0]) != api.MaxStates || !slices.IsSorted(p[0]) {
		t.Error(len(p))
	}
	all[4000] = false
	if p := chain.Parts(all); len(p) != api.MaxStates-1 || p[4000][0] != 4001 {
		t.Error(len(p))
	}
	bools := of(t, twelve())
	if len(bools.States) != api.MaxStates || bools.Find([]int{1, 0, 0, 0, 0, 0, 0, 0, 0, 0, 0, 1}) != 2049 {
		t.Error(len(bools.States))
	}
}

// twelve returns declarations of twelve Boolean variables that keep their values.
func twelve() string {
	var b strings.Builder
	for i := range 12 {
		name := "b" + strconv.Itoa(i)
		b.WriteString("var " + name + " : bool; next " + name + " := " + name + ";")
	}
	return b.String()
}

func TestFind(t *testing.T) {
	g := of(t, "var a : bool; var n : -3 .. 3; invar n != 0 & (a -> 0 < n);")
	for i, s := range g.States {
		if g.Find(s) != i {
			t.Error(i, s, g.Find(s))
		}
	}
	for _, s := range [][]int{nil, {0}, {0, 0}, {1, -3}, {1, 0}, {0, -4}, {0, 4}, {2, 1}, {-1, 1}, {1, 3, 0}, {1, math.MaxInt}, {math.MinInt, 1}, {math.MaxInt, math.MaxInt, 0}} {
		if g.Find(s) != -1 {
			t.Error(s, g.Find(s))
		}
	}
	none, empty := of(t, "var a : bool; invar a & !a;"), of(t, "")
	if none.Find([]int{0}) != -1 || none.Find(nil) != -1 || empty.Find(nil) != 0 || empty.Find([]int{}) != 0 || empty.Find([]int{0}) != -1 {
		t.Error("a state is found that is none, or isn't that is")
	}
}

func TestReach(t *testing.T) {
	g := of(t, "var n : 0 .. 5; next n := if n = 2 then 0 else if n = 4 then 5 else n + 1;")
	for want, from := range map[string][]int{
		"000000": {}, "111000": {0}, "111001": {5, 2}, "000011": {4}, "111111": {3, 1, 3, 1}, "000001": {5, 6, -1, math.MaxInt, math.MinInt},
	} {
		var b strings.Builder
		before := slices.Clone(from)
		for _, yes := range g.Reach(from...) {
			if yes {
				b.WriteString("1")
			} else {
				b.WriteString("0")
			}
		}
		if b.String() != want || !slices.Equal(from, before) {
			t.Error(from, b.String(), want)
		}
	}
	if r := of(t, "invar false;").Reach(0); len(r) != 0 {
		t.Error(r)
	}
}

func TestParts(t *testing.T) {
	g := of(t, "var n : 0 .. 6; trans n = 0 & next(n) = 5 | n = 5 & next(n) = 0 | n = 5 & next(n) = 3 | n = 3 & next(n) = 1 | n = 1 & next(n) = 6 | n = 6 & next(n) = 3 | n = 2 & next(n) = 2 | n = 6 & next(n) = 4;")
	yes := func(l ...int) []bool {
		in := make([]bool, 7)
		for _, i := range l {
			in[i] = true
		}
		return in
	}
	for _, x := range []struct {
		in   []bool
		want [][]int
	}{
		{yes(0, 1, 2, 3, 4, 5, 6), [][]int{{0, 5}, {1, 3, 6}, {2}, {4}}},
		{yes(0, 1, 2, 3, 4, 5, 6)[:6], [][]int{{0, 5}, {1}, {2}, {3}, {4}}},
		{append(yes(0, 1, 2, 3, 4, 5, 6), true, true), [][]int{{0, 5}, {1, 3, 6}, {2}, {4}}},
		{yes(6, 3, 1), [][]int{{1, 3, 6}}},
		{yes(6, 3, 0), [][]int{{0}, {3}, {6}}},
		{yes(), nil},
		{nil, nil},
	} {
		before := slices.Clone(x.in)
		if p := g.Parts(x.in); !same(p, x.want) || !slices.Equal(x.in, before) {
			t.Error(x.in, p)
		}
	}
}

// What a call answers is its own memory.
func TestMemory(t *testing.T) {
	const s = "var n : 0 .. 5; invar n != 3; trans next(n) != n; fair n = 1; fair n < 3; init n < 2;"
	mod := sample.Model(t, s)
	g, _ := graph.Of(mod)
	want := of(t, s)
	check := func(about string) {
		t.Helper()
		if !same(g.States, want.States) || !same(g.Next, want.Next) || !slices.Equal(g.Init, want.Init) || !same(g.Fair, want.Fair) {
			t.Error(about, g)
		}
	}
	mod.Vars[0].Hi, mod.Fair[0].Kids[1].N, mod.Trans[0].Op = 9, 2, 1
	check("the module")
	for i := range g.States {
		_ = append(g.States[i], 99)
		_ = append(g.Next[i], 99)
		_ = append(g.Fair[i], true)
	}
	check("the lists")
	prev := g.Prev()
	for i := range prev {
		_ = append(prev[i], 99)
		prev[i][0] = 99
	}
	reach := g.Reach(0)
	reach[1] = false
	parts := g.Parts(reach)
	parts[0][0] = 99
	_ = append(parts[0], 99)
	check("what is told")
	if again := g.Prev(); again[0][0] != 1 || len(again) != 5 || !g.Reach(0)[1] {
		t.Error(again)
	}
}
