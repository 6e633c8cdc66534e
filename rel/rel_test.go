package rel_test

import (
	"fmt"
	"math/rand"
	"slices"
	"testing"

	"voussoir/api"
	"voussoir/dd"
	"voussoir/defs"
	"voussoir/enc"
	"voussoir/graph"
	"voussoir/rel"
	"voussoir/sample"
	"voussoir/terms"
	"voussoir/trial"
	"voussoir/typing"
)

// show returns all that there is to a model, also where it has no text in the modelling language.
func show(m api.Module) string {
	return fmt.Sprint(m)
}

// relation returns the relation of a model, which is to succeed.
func relation(t *testing.T, m *dd.Man, mod api.Module) *rel.Rel {
	t.Helper()
	r, e := rel.New(m, mod)
	if r == nil || e != api.OK {
		t.Fatalf("%s: %d", show(mod), e)
	}
	return r
}

// has reports whether a function is true at an assignment.
func has(t *testing.T, m *dd.Man, h int, l []bool) bool {
	t.Helper()
	yes, e := m.Eval(h, l)
	if e != api.OK {
		t.Fatal(h, e)
	}
	return yes
}

// ends returns the indices of the states of which an assignment has the current and the next bits, or -1.
func ends(g graph.Graph, l enc.Layout, bits []bool) (now, next int) {
	find := func(vars []int) int {
		var code []bool
		for _, v := range vars {
			code = append(code, bits[v])
		}
		s, e := l.State(code)
		if e != api.OK {
			return -1
		}
		return g.Find(s)
	}
	return find(l.AllNow()), find(l.AllNext())
}

// represents checks the functions of a relation at all assignments of its manager.
func represents(t *testing.T, r *rel.Rel, g graph.Graph, mod api.Module) {
	t.Helper()
	m, l, parts := r.Man(), r.Layout(), r.Parts()
	whole, e := r.Whole()
	if e != api.OK {
		t.Fatal(e)
	}
	world := &trial.World{T: t, M: m}
	for code := range 1 << m.Vars() {
		a := world.Assignment(code)
		now, next := ends(g, l, a)
		if has(t, m, r.Valid(), a) != (now >= 0) || has(t, m, r.Init(), a) != slices.Contains(g.Init, now) {
			t.Fatalf("%s: Valid or Init at %v", show(mod), a)
		}
		for i, h := range r.Fair() {
			if has(t, m, h, a) != (now >= 0 && g.Fair[now][i]) {
				t.Fatalf("%s: Fair %d at %v", show(mod), i, a)
			}
		}
		step := now >= 0 && next >= 0 && slices.Contains(g.Next[now], next)
		all := true
		for i, h := range parts {
			yes := has(t, m, h, a)
			all = all && yes
			if now >= 0 && next >= 0 && yes != satisfied(t, r.Module(), i, g.States[now], g.States[next]) {
				t.Fatalf("%s: part %d at %v", show(mod), i, a)
			}
		}
		last := has(t, m, parts[len(parts)-1], a)
		if all != step || has(t, m, whole, a) != step || last != (now >= 0 && next >= 0) {
			t.Fatalf("%s: the parts or the whole at %v", show(mod), a)
		}
	}
	m.Drop(whole)
}

// satisfied reports whether the condition of part i of a model without definitions is satisfied for two states.
func satisfied(t *testing.T, flat api.Module, i int, s, n []int) bool {
	t.Helper()
	value := func(x api.Term) int {
		v, ok := terms.Eval(flat.Vars, x, s, n)
		if !ok {
			t.Fatal(x)
		}
		return v
	}
	switch rest := i - len(flat.Next); {
	case rest < 0:
		v := slices.IndexFunc(flat.Vars, func(v api.Var) bool { return v.Name == flat.Next[i].Name })
		return n[v] == value(flat.Next[i].E)
	case rest < len(flat.Trans):
		return value(flat.Trans[rest]) == 1
	}
	return true
}

// owns checks which handles a relation has, and that Close drops them; before it the manager had so many.
func owns(t *testing.T, r *rel.Rel, before int) {
	t.Helper()
	m, mod := r.Man(), r.Module()
	if len(r.Parts()) != len(mod.Next)+len(mod.Trans)+1 || len(r.Fair()) != len(mod.Fair) || len(mod.Defs) != 0 {
		t.Fatal(r.Parts(), r.Fair())
	}
	all := slices.Concat([]int{r.Valid(), r.Init()}, r.Parts(), r.Fair())
	slices.Sort(all)
	if len(slices.Compact(slices.Clone(all))) != len(all) || all[0] < 2 || m.Handles() != before+len(all) {
		t.Fatal(all, before, m.Handles())
	}
	r.Close()
	if m.Handles() != before || slices.ContainsFunc(all, m.Is) {
		t.Fatal(before, m.Handles())
	}
}

func TestTheExample(t *testing.T) {
	mod := sample.Model(t, "var x : 0 .. 2; init x = 0; next x := if x = 2 then 0 else x + 1;")
	w := trial.New(t, nil, 4, trial.Enough(4, 6))
	r := relation(t, w.M, mod)
	g := graph.Graph{States: [][]int{{0}, {1}, {2}}, Next: [][]int{{1}, {2}, {0}}, Init: []int{0}, Fair: make([][]bool, 3)}
	represents(t, r, g, mod)
	if len(r.Parts()) != 2 {
		t.Error(r.Parts())
	}
	owns(t, r, 2)
}

func TestRandomModels(t *testing.T) {
	r := rand.New(rand.NewSource(39))
	steps, wide := 0, 0
	for done := 0; done < 800; {
		mod := sample.Module(r)
		bits := typing.Bits(mod)
		if bits > 3 && r.Intn(5) > 0 {
			continue
		}
		done++
		g, e := graph.Of(mod)
		if e != api.OK {
			t.Fatal(e)
		}
		vars := 2*bits + r.Intn(2)
		w := trial.New(t, r, vars, trial.Enough(vars, 2))
		for range 2 * vars {
			w.M.Swap(r.Intn(vars))
		}
		w.Disturb()
		text := show(mod)
		rel := relation(t, w.M, mod)
		w.Disturb()
		represents(t, rel, g, mod)
		flat, _, _ := defs.Flat(mod)
		if show(rel.Module()) != show(flat) || rel.Man() != w.M || show(mod) != text {
			t.Fatal(show(rel.Module()))
		}
		l, _ := enc.Of(mod.Vars)
		if got := rel.Layout(); !slices.Equal(got.Vars, l.Vars) || !slices.Equal(got.Bits, l.Bits) || !slices.Equal(got.At, l.At) {
			t.Fatal(got)
		}
		owns(t, rel, 2)
		for _, next := range g.Next {
			steps += len(next)
		}
		if bits > 3 {
			wide++
		}
	}
	if steps < 2000 || wide < 10 {
		t.Error(steps, wide)
	}
}

// Terms that look at the next state, and definitions that are used in all kinds of declarations.
func TestModels(t *testing.T) {
	for _, s := range []string{
		"",
		"init false; fair true; trans true;",
		"trans false;",
		"var x : bool;",
		"var x : bool; var y : bool;",
		"var k : 7 .. 7; next k := 6;",
		"var x : 0 .. 2; invar x != 1;",
		"var x : 0 .. 4; var b : bool; def top := x = 4; invar top -> b; init !top; next x := if top then 0 else x + 1; fair top; fair !b; trans next(b) | x < 3;",
		"var x : -1 .. 1; trans next(x) = 0 - x; trans next(x) != x; next x := x * x - 1;",
		"var x : bool; invar false; init x; fair x;",
		"var x : 0 .. 2; var y : 0 .. 2; invar x + y <= 2; next x := y; fair x = y; fair x = 2; init x = y;",
	} {
		mod := sample.Model(t, s)
		g, e := graph.Of(mod)
		if e != api.OK {
			t.Fatal(s, e)
		}
		w := trial.New(t, nil, 2*typing.Bits(mod), 20000)
		r := relation(t, w.M, mod)
		represents(t, r, g, mod)
		owns(t, r, 2)
	}
}

// Two relations in a manager don't disturb each other, nor other handles.
func TestTwoRelations(t *testing.T) {
	a, b := sample.Model(t, "var x : 0 .. 2; next x := 2 - x; fair x = 0;"), sample.Model(t, "var y : bool; var z : bool; init y; trans next(z) = y;")
	ga, _ := graph.Of(a)
	gb, _ := graph.Of(b)
	w := trial.New(t, nil, 5, 20000)
	f := w.Handle(0x13579bdf)
	r := relation(t, w.M, a)
	other := relation(t, w.M, b)
	represents(t, r, ga, a)
	represents(t, other, gb, b)
	owns(t, r, w.M.Handles()-5)
	represents(t, other, gb, b)
	owns(t, other, 3)
	w.Keeps([]uint64{0x13579bdf}, []int{f})
}

// What is given and what is answered is not the relation's memory, as far as handles and terms go.
func TestMemory(t *testing.T) {
	s := "var x : 0 .. 2; invar x < 2; init x = 0; next x := x + 1; trans x < next(x); fair x = 1;"
	mod := sample.Model(t, s)
	w := trial.New(t, nil, 4, 2000)
	r := relation(t, w.M, mod)
	want := show(mod)
	for _, l := range [][]api.Term{mod.Init, mod.Invar, mod.Trans, mod.Fair, {mod.Next[0].E}} {
		l[0].Kids[0] = api.Term{Op: 99}
		l[0] = api.Term{}
	}
	mod.Vars[0], mod.Next[0] = api.Var{}, api.Def{}
	if got := show(r.Module()); got != want || r.Layout().Vars[0].Name != "x" {
		t.Error(got)
	}
	parts, fair := slices.Clone(r.Parts()), slices.Clone(r.Fair())
	r.Parts()[0], r.Fair()[0] = 99, 99
	if !slices.Equal(r.Parts(), parts) || !slices.Equal(r.Fair(), fair) {
		t.Error(r.Parts(), r.Fair())
	}
}

func TestWrongArguments(t *testing.T) {
	w := trial.New(t, nil, 4, 2000)
	for _, x := range []struct {
		m    *dd.Man
		s    string
		want api.Errno
	}{
		{nil, "var x : 0 .. 2; init x;", api.ErrNone},
		{w.M, "var x : 0 .. 2; init x;", api.ErrType},
		{w.M, "var x : 0 .. 9; init y;", api.ErrName},
		{w.M, "var x : 0 .. 2; def a := b; def b := a;", api.ErrCycle},
		{w.M, "var x : 0 .. 2; var x : bool;", api.ErrTwice},
		{w.M, "var x : 0 .. 2; init next(x) = 1;", api.ErrPlace},
		{w.M, "var x : 0 .. 2; spec s : AG [x];", api.ErrType},
		{w.M, "var x : 0 .. 4;", api.ErrVar},
		{w.M, "var x : 0 .. 2; var b : bool;", api.ErrVar},
	} {
		if r, e := rel.New(x.m, sample.Model(t, x.s)); r != nil || e != x.want || w.M.Handles() != 2 {
			t.Errorf("%s: %d; want %d", x.s, e, x.want)
		}
	}
	if r, e := rel.New(w.M, api.Module{Init: make([]api.Term, api.MaxParts+1)}); r != nil || e != api.ErrMany {
		t.Error(e)
	}
	full := trial.New(t, nil, 4, 1)
	if r, e := rel.New(full.M, sample.Model(t, "var x : 0 .. 2;")); r != nil || e != api.ErrRoom || full.M.Handles() != 2 {
		t.Error(e)
	}
}

// A relation for which there is no room leaves nothing behind.
func TestLittleRoom(t *testing.T) {
	r := rand.New(rand.NewSource(40))
	failed, done, whole := 0, 0, 0
	for range 1500 {
		mod := sample.Module(r)
		vars := 2 * typing.Bits(mod)
		w := trial.New(t, r, vars, 5+r.Intn(10*vars+1))
		kept, e := w.M.Copy(1)
		if e != api.OK {
			t.Fatal(e)
		}
		w.Disturb()
		rel, e := rel.New(w.M, mod)
		switch {
		case e == api.ErrRoom && rel == nil && w.M.Handles() == 3:
			failed++
		case e != api.OK:
			t.Fatal(e, w.M.Handles())
		default:
			done++
			before := w.M.Handles()
			h, e := rel.Whole()
			if e == api.ErrRoom && h == 0 && w.M.Handles() == before {
				whole++
			} else if e != api.OK {
				t.Fatal(e)
			}
			w.M.Drop(h)
			owns(t, rel, 3)
		}
		if !w.M.Is(kept) {
			t.Fatal("a handle is gone")
		}
	}
	if failed < 200 || done < 200 || whole < 3 {
		t.Error(failed, done, whole)
	}
}

func TestNil(t *testing.T) {
	var r *rel.Rel
	r.Close()
	l, mod := r.Layout(), r.Module()
	if r.Man() != nil || r.Valid() != 0 || r.Init() != 0 || len(r.Parts()) != 0 || len(r.Fair()) != 0 || l.Total() != 0 || len(mod.Vars) != 0 {
		t.Error("no relation")
	}
	if h, e := r.Whole(); h != 0 || e != api.ErrNone {
		t.Error(h, e)
	}
}
