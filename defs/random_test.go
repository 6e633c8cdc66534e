package defs_test

import (
	"math/rand"
	"slices"
	"testing"

	"voussoir/api"
	"voussoir/defs"
	"voussoir/forms"
	"voussoir/terms"
)

var letters = []string{"a", "b", "c", "d", "e", "f", "g", "x", "y"}

// random returns a term over the letters, of that depth or less.
func random(r *rand.Rand, depth int) api.Term {
	if depth <= 1 || r.Intn(4) == 0 {
		s := letters[r.Intn(len(letters))]
		return []api.Term{num(r.Intn(9)), name(s), name(s), next(s)}[r.Intn(4)]
	}
	switch r.Intn(3) {
	case 0:
		return op(api.TSub, random(r, depth-1), random(r, depth-1))
	case 1:
		return op(api.TIf, op(api.TLt, random(r, depth-2), random(r, depth-2)), random(r, depth-1), random(r, depth-1))
	}
	return op(api.TMul, random(r, depth-1), random(r, depth-1))
}

// someDefs returns some definitions, of which few are repeated.
func someDefs(r *rand.Rand) (l []api.Def) {
	for range r.Intn(8) {
		l = append(l, def(letters[r.Intn(7)], random(r, 1+r.Intn(3))))
	}
	return l
}

// used returns the indices of the definitions on which definition i depends directly.
func used(l []api.Def, i int) (o []int) {
	names, _ := terms.Names(l[i].E)
	for _, s := range names {
		if j := slices.IndexFunc(l, func(d api.Def) bool { return d.Name == s }); j >= 0 {
			o = append(o, j)
		}
	}
	return o
}

// order returns the promised order, as far as it goes: it tries all indices at each position.
func order(l []api.Def) (o []int) {
	for i := 0; i < len(l); i++ {
		fits := !slices.Contains(o, i)
		for _, j := range used(l, i) {
			fits = fits && slices.Contains(o, j)
		}
		if fits {
			o = append(o, i)
			i = -1
		}
	}
	return o
}

// ring returns the promised ring: it goes through all cycles.
func ring(l []api.Def) (best []string) {
	var walk func(path []int)
	walk = func(path []int) {
		for _, j := range used(l, path[len(path)-1]) {
			if j == path[0] {
				var names []string
				for _, i := range path {
					names = append(names, l[i].Name)
				}
				if len(best) == 0 || len(names) < len(best) || len(names) == len(best) && slices.Compare(names, best) < 0 {
					best = names
				}
			}
			if !slices.Contains(path, j) && l[j].Name > l[path[0]].Name {
				walk(append(slices.Clone(path), j))
			}
		}
	}
	for i := range l {
		walk([]int{i})
	}
	return best
}

// expanded returns t with all names replaced, and false if that does not come to an end.
func expanded(t api.Term, l []api.Def, above []string) (api.Term, bool) {
	if t.Op == api.TName {
		i := slices.IndexFunc(l, func(d api.Def) bool { return d.Name == t.Name })
		if i < 0 {
			return t, true
		}
		if slices.Contains(above, t.Name) {
			return t, false
		}
		return expanded(l[i].E, l, append(slices.Clone(above), t.Name))
	}
	t.Kids = slices.Clone(t.Kids)
	for i, kid := range t.Kids {
		var ends bool
		if t.Kids[i], ends = expanded(kid, l, above); !ends {
			return t, false
		}
	}
	return t, true
}

func TestRandomDefinitions(t *testing.T) {
	r := rand.New(rand.NewSource(35))
	for range 30000 {
		l := someDefs(r)
		o, e := defs.Order(l)
		want, round := order(l), ring(l)
		if got := defs.Ring(l); !slices.Equal(got, round) {
			t.Fatalf("Ring of %v: %v; want %v", l, got, round)
		}
		switch {
		case (len(want) < len(l)) != (len(round) > 0):
			t.Fatal("the tests do not agree")
		case len(round) > 0 && (len(o) > 0 || e != api.ErrCycle), len(round) == 0 && (!slices.Equal(o, want) || e != api.OK):
			t.Fatalf("Order of %v: %v, %d; want %v", l, o, e, want)
		}
		x := random(r, 4)
		full, ends := expanded(x, l, nil)
		got, e := defs.Inline(x, l)
		if !ends && (e != api.ErrCycle || !terms.Same(got, api.Term{})) || ends && terms.Check(full) == api.OK && (e != api.OK || !terms.Same(got, full)) {
			t.Fatalf("Inline of %v in %v: %v, %d", x, l, got, e)
		}
		if !ends || e != api.OK {
			continue
		}
		again, e := defs.Inline(got, l)
		if !terms.Same(got, again) || e != api.OK {
			t.Fatalf("Inline of an expanded term %v: %v, %d", got, again, e)
		}
	}
}

func TestTheValueOfAnExpandedTerm(t *testing.T) {
	r := rand.New(rand.NewSource(36))
	for range 3000 {
		l := someDefs(r)
		x := random(r, 4)
		full, e := defs.Inline(x, l)
		if e != api.OK {
			continue
		}
		var vars []api.Var
		var state, wide []int
		for _, s := range letters {
			vars = append(vars, api.Var{Name: s, Lo: -50, Hi: 50})
			state = append(state, r.Intn(9)-4)
		}
		for i, s := range letters {
			wide = append(wide, state[i])
			meaning, e := defs.Inline(name(s), l)
			v, ok := terms.Eval(vars, meaning, state, state)
			if e != api.OK || !ok {
				v, ok = 0, true // it does not occur in x, or x has no value either
			}
			wide[i] = v
		}
		v, ok := terms.Eval(vars, full, state, state)
		w, ok2 := terms.Eval(vars, x, wide, state)
		if ok && ok2 && v != w {
			t.Fatalf("%v has the value %d, and %v has %d", x, w, full, v)
		}
	}
}

func TestAliasing(t *testing.T) {
	l := []api.Def{def("a", add(name("x"), num(1))), def("b", op(api.TMul, name("a"), name("a")))}
	x := add(name("b"), name("y"))
	f := quantified(api.FEX, formula(x))
	m := api.Module{Vars: []api.Var{{Name: "x"}}, Defs: l, Init: []api.Term{x}, Next: []api.Def{def("x", x)}, Specs: []api.Spec{{Name: "s", F: f}}}
	got, _ := defs.Inline(x, l)
	g, _ := defs.Form(f, l)
	n, _, _ := defs.Flat(m)
	sum := add(name("x"), num(1))
	want := add(op(api.TMul, sum, sum), name("y"))
	l[0].E.Kids[0] = num(7)
	x.Kids[0], x.Kids[1] = num(8), num(8)
	f.Kids[0] = formula(num(9))
	m.Vars[0].Name, m.Next[0].Name, m.Specs[0].Name, m.Init[0] = "z", "z", "z", num(1)
	if !terms.Same(got, want) || !forms.Same(g, quantified(api.FEX, formula(want))) || !terms.Same(n.Init[0], want) || !terms.Same(n.Next[0].E, want) || !forms.Same(n.Specs[0].F, g) || n.Vars[0].Name != "x" || n.Next[0].Name != "x" || n.Specs[0].Name != "s" {
		t.Error("an answer shares memory with an argument")
	}
	got.Kids[0].Kids[0].Kids[0] = num(3)
	if !terms.Same(got.Kids[0].Kids[1], sum) {
		t.Error("an answer shares memory with itself")
	}
}
