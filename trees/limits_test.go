package trees_test

import (
	"math"
	"math/rand"
	"slices"
	"strings"
	"testing"

	"voussoir/api"
	"voussoir/cubes"
	"voussoir/dd"
	"voussoir/forms"
	"voussoir/oracle"
	"voussoir/paths"
	"voussoir/rel"
	"voussoir/sample"
	"voussoir/trees"
	"voussoir/typing"
)

// What Push returns may be nested deeper and have more nodes than formulas can.
func TestBeyondTheLimits(t *testing.T) {
	w := ofText(t, "var x : 0 .. 3; next x := (x + 1) mod 4; fair x = 2;")
	word := func(s string) api.Form { return sample.Formula(t, s) }
	deep := word("[x = 2]")
	for range 20 { // each until comes to be negated
		until := api.Form{Op: api.FEU, Kids: []api.Form{word("[x = 1]"), deep}}
		deep = api.Form{Op: api.FEX, Kids: []api.Form{{Op: api.FImp, Kids: []api.Form{until, word("[x = 3]")}}}}
	}
	unless := func(q string, f api.Form) api.Form {
		return over(api.FImp, over(api.FAU, word("[x = 1]"), word(q)), f)
	}
	refuted := unless("[x = 3]", word("[x = 0]")) // where x is 1, none of the others is
	for range api.MaxDeep - 4 {
		refuted = unless("[x = 2]", refuted)
	}
	refuted = over(api.FEX, refuted)
	var wide []api.Form
	for range api.MaxSize / 6 {
		wide = append(wide, unless("[x = 2]", word("[x = 3]")))
	}
	for len(wide) > 1 {
		wide = append(wide[2:], over(api.FAnd, wide[:2:2]...))
	}
	for i, f := range []api.Form{deep, refuted, wide[0]} {
		if forms.Check(f) != api.OK {
			t.Fatal(i, forms.Check(f))
		}
		yes, e := oracle.Sat(w.Graph, w.Rel.Module(), f)
		if e != api.OK {
			t.Fatal(e)
		}
		for k, s := range w.Graph.States {
			checked(t, w, f, s, yes[k])
		}
	}
	for f, want := range map[*api.Form]api.Errno{&deep: api.ErrDeep, &refuted: api.ErrDeep, &wide[0]: api.ErrLong} {
		if e := forms.Check(forms.Push(*f, false)); e != want {
			t.Error(e, want)
		}
	}
}

// checked checks that there is the tree for f or its negation in a state, and that Check accepts it.
func checked(t *testing.T, w world, f api.Form, s []int, yes bool) {
	t.Helper()
	owned := w.M.Handles()
	tree, e := trees.Explain(w.Rel, f, s)
	other, fault := trees.Counter(w.Rel, f, s)
	if !yes {
		f, tree, e, other, fault = not(f), other, fault, tree, e
	}
	if e != api.OK || fault != api.ErrTree || !zero(other) || w.M.Handles() != owned {
		t.Fatal(e, fault, w.M.Handles(), owned)
	}
	if forms.Check(f) == api.OK {
		if _, e := paths.Check(w.Rel.Module(), f, s, tree); e != api.OK {
			t.Fatal(e)
		}
	}
}

// A negation that Push adds may make a term deeper than terms can be.
func TestDeepTerms(t *testing.T) {
	w := ofText(t, "var x : 0 .. 3; var b : bool; next x := (x + 1) mod 4; fair !b;")
	term := api.Term{Op: api.TName, Name: "b"}
	for range api.MaxDeep - 1 {
		term = api.Term{Op: api.TAnd, Kids: []api.Term{term}}
	}
	leaf := api.Form{Op: api.FTerm, E: term}
	for _, f := range []api.Form{leaf, not(leaf), {Op: api.FAG, Kids: []api.Form{leaf}}, {Op: api.FEG, Kids: []api.Form{not(leaf)}}, {Op: api.FImp, Kids: []api.Form{leaf, {Op: api.FEF, Kids: []api.Form{not(leaf)}}}}, {Op: api.FAU, Kids: []api.Form{leaf, leaf}}} {
		yes, e := oracle.Sat(w.Graph, w.Rel.Module(), f)
		if e != api.OK {
			t.Fatal(e)
		}
		for k, s := range w.Graph.States {
			checked(t, w, f, s, yes[k])
		}
	}
}

// Nothing is promised of an FAU with an operand that is too deep to be valid, but that a call ends and leaves nothing behind, and where the formula does not hold there is no tree.
func TestOperandsThatAreNotValid(t *testing.T) {
	w := ofText(t, "var x : 0 .. 3; var b : bool; next x := (x + 1) mod 4; fair !b;")
	term := api.Term{Op: api.TName, Name: "b"}
	for range api.MaxDeep - 1 {
		term = api.Term{Op: api.TNot, Kids: []api.Term{term}}
	}
	leaf, other := not(api.Form{Op: api.FTerm, E: term}), sample.Formula(t, "[x = 2]")
	owned := w.M.Handles()
	for _, f := range []api.Form{over(api.FAU, leaf, other), over(api.FAU, other, leaf), over(api.FEG, over(api.FOr, not(over(api.FAU, leaf, other)), other)), over(api.FEU, over(api.FAU, other, leaf), other)} {
		yes, e := oracle.Sat(w.Graph, w.Rel.Module(), f)
		if e != api.OK {
			t.Fatal(e)
		}
		for k, s := range w.Graph.States {
			_, explained := trees.Explain(w.Rel, f, s)
			_, countered := trees.Counter(w.Rel, f, s)
			if !yes[k] && explained != api.ErrTree || yes[k] && countered != api.ErrTree || w.M.Handles() != owned {
				t.Error(f.Op, s, explained, countered, w.M.Handles())
			}
			if f.Op == api.FAU && countered != api.ErrTree {
				t.Error(s, "a negation that can't be pushed is explained", countered)
			}
		}
	}
}

// fill fills a manager with functions until there is room for so many nodes only, or for a few less.
func fill(r *rand.Rand, m *dd.Man, left int) {
	m.Collect()
	for m.Room()-m.Len() > left {
		var l []api.Lit
		for v := range m.Vars() {
			l = append(l, api.Lit{Var: v, Yes: r.Intn(2) == 0})
		}
		if _, e := cubes.Of(m, l...); e != api.OK {
			return
		}
	}
}

// Whatever it is for which there is no room, the error tells that, and no other one does.
func TestRooms(t *testing.T) {
	random := rand.New(rand.NewSource(3))
	mod := sample.Model(t, "var a : 0 .. 7; var b : 0 .. 7; trans next(a) = b | next(a) = (a + 1) mod 8; trans next(b) = a | next(b) = b; fair a = b; fair a != 3;")
	errors := map[api.Errno]int{}
	for _, s := range []string{"!A [![a = b] U !EX [a * b < 30]]", "!A [!EX AX [a < b] U !EG [b != a + 1]]", "EG EX E [[a != 5] U [b = 5]]", "EF EG [a = b | a != 3] & EX [a != b]"} {
		f := sample.Formula(t, s)
		for left := 0; left < 250; left += 4 {
			m, _ := dd.New(12, 4096)
			r, e := rel.New(m, mod)
			if e != api.OK {
				t.Fatal(e)
			}
			fill(random, m, left)
			owned := m.Handles()
			tree, e := trees.Explain(r, f, []int{5, 5})
			errors[e]++
			switch {
			case m.Handles() != owned:
				t.Fatal(m.Handles(), owned)
			case e == api.OK:
				if _, e := paths.Check(mod, f, []int{5, 5}, tree); e != api.OK {
					t.Error(s, left, e)
				}
			case e != api.ErrRoom || !zero(tree):
				t.Error(s, left, tree, e)
			}
		}
	}
	if errors[api.ErrRoom] < 50 || errors[api.OK] < 20 {
		t.Error(errors)
	}
}

// takes checks that a call on the relation of a model asks for no more than so many nodes and leaves no handle, and returns the tree.
func takes(t *testing.T, s, formula string, from []int, nodes int) (f api.Form, tree api.Tree, mod api.Module) {
	t.Helper()
	mod = sample.Model(t, s)
	m, e := dd.New(2*typing.Bits(mod), 1<<18)
	if e != api.OK {
		t.Fatal(e)
	}
	r, e := rel.New(m, mod)
	if e != api.OK {
		t.Fatal(s, e)
	}
	owned := m.Handles()
	m.Plan(api.Event{After: nodes, Kind: api.EvCollect})
	f = sample.Formula(t, formula)
	tree, e = trees.Explain(r, f, from)
	if m.Waits() == 0 || e != api.OK || m.Handles() != owned {
		t.Fatalf("%s in %s takes more than %d nodes, or %d", formula, s, nodes, e)
	}
	return f, tree, mod
}

// In great models few nodes are asked for, even if very many states are to be explained: what is known of one of them is of use for others.
func TestGreatModels(t *testing.T) {
	const (
		numbers = "var a : 0 .. 63; var b : 0 .. 63; var c : 0 .. 63; fair a = b; fair b = c; "
		ring    = "var a : 0 .. 63; var b : 0 .. 7; next b := (b + 1) mod 8; next a := if b = 7 then (a + 1) mod 64 else a;"
	)
	for _, x := range []struct {
		model, formula string
		from           []int
		nodes, size    int
	}{
		{numbers, "EG EF [a = 63 & b = 60]", []int{0, 0, 0}, 10000, 3},
		{numbers + "next a := b; next b := c;", "EG EF [a = 63 & b = 60]", []int{0, 0, 0}, 40000, 3},
		{ring, "EF [a = 63 & b = 7]", []int{0, 0}, 200000, 2},
		{ring, "EG EX [a <= 63]", []int{0, 0}, 300000, 1025},
		{ring, "EG EF [a = 63 & b = 7]", []int{0, 0}, 300000, 1025},
		{ring, "EG E [[a < 63] U [a = 63]]", []int{5, 3}, 300000, 1 + 8*2 + 504*2 + 504*505/2},
		{ring, "EG !A [[a < 50] U [a = 60 & a = 61]]", []int{0, 0}, 300000, 1 + 112*3 + 400*3 + 400*401/2},
	} {
		_, tree, mod := takes(t, x.model, x.formula, x.from, x.nodes)
		if n := trees.Size(tree); n != x.size {
			t.Errorf("%s: %d; want %d", x.formula, n, x.size)
		}
		for _, kid := range tree.Kids[:min(len(tree.Kids), 2)] {
			if _, e := paths.Check(mod, kid.F, kid.State, kid); e != api.OK {
				t.Error(x.formula, e)
			}
		}
	}
}

// There is no limit of steps: it takes 4097 of them to get from one end of a chain to the other.
func TestManySteps(t *testing.T) {
	closed := strings.Replace(sample.Chain, "trans !c;", "fair c; fair a = 0 & b = 1;", 1)
	for s, at := range map[string]int{"E [[!c] U [c]]": 4096, "!A [[!c] U [a = 1 & a = 2]]": 4096} {
		f, tree, mod := takes(t, closed, s, []int{0, 0, 0}, math.MaxInt)
		if tree.At != at || len(tree.Path) < 4097 {
			t.Error(s, tree.At, len(tree.Path))
		}
		if _, e := paths.Check(mod, f, []int{0, 0, 0}, tree); e != api.OK {
			t.Error(s, e)
		}
	}
}

// A tree may have far more nodes than there is memory for. Its parts are right.
func TestMoreThanAnyMemory(t *testing.T) {
	w := ofText(t, "var x : bool; next x := !x;")
	r := rand.New(rand.NewSource(2))
	truth := sample.Formula(t, "[true]")
	always, never := truth, truth
	for range api.MaxDeep - 1 {
		always = over(api.FEG, always)
	}
	for range (api.MaxDeep - 1) / 3 {
		never = not(over(api.FAU, truth, not(never)))
	}
	for _, f := range []api.Form{always, never} {
		tree, e := trees.Explain(w.Rel, f, []int{0})
		if e != api.OK {
			t.Fatal(e)
		}
		for range forms.Deep(forms.Push(f, false)) - 1 {
			i := r.Intn(2)
			if len(tree.Path) != 2 || len(tree.Kids) != 2 || !slices.Equal(tree.Kids[i].State, tree.Path[i]) || !paths.Lasso(w.Rel.Module(), tree.Path, tree.Loop) {
				t.Fatal(tree.F, tree.Path, tree.Loop)
			}
			tree = tree.Kids[i]
			if tree.Kind == api.KPlain {
				break
			}
		}
		if tree.Kind != api.KPlain || len(tree.Kids) != 0 {
			t.Error(tree)
		}
	}
}
