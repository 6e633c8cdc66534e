package cone_test

import (
	"math/rand"
	"slices"
	"strconv"
	"strings"
	"testing"

	"voussoir/api"
	"voussoir/cone"
	"voussoir/defs"
	"voussoir/sample"
	"voussoir/terms"
	"voussoir/typing"
)

var letters = strings.Split("a b c d e f g h", " ")

// text returns a model of which few declarations speak of several variables.
func text(r *rand.Rand) string {
	var b strings.Builder
	pick := func() string {
		if r.Intn(4) == 0 {
			return "k" + strconv.Itoa(r.Intn(4))
		}
		return letters[r.Intn(len(letters))]
	}
	condition := func(pick func() string) string {
		switch r.Intn(8) {
		case 0:
			return "true"
		case 1:
			return pick() + " -> " + pick() + " & true"
		case 2:
			return "if " + pick() + " then " + pick() + " else " + pick()
		}
		return "!" + pick()
	}
	for _, i := range r.Perm(len(letters)) {
		b.WriteString("var " + letters[i] + " : bool;")
	}
	for i := range 4 { // each uses those behind it only
		b.WriteString("def k" + strconv.Itoa(i) + " := " + condition(func() string {
			if i < 3 && r.Intn(3) == 0 {
				return "k" + strconv.Itoa(i+1+r.Intn(3-i))
			}
			return letters[r.Intn(len(letters))]
		}) + ";")
	}
	for _, kind := range []string{"init", "invar", "fair"} {
		for range r.Intn(4) {
			b.WriteString(kind + " " + condition(pick) + ";")
		}
	}
	for range r.Intn(3) {
		b.WriteString("trans " + condition(func() string {
			if r.Intn(2) == 0 {
				return "next(" + letters[r.Intn(len(letters))] + ")"
			}
			return pick()
		}) + ";")
	}
	for _, i := range r.Perm(len(letters))[:r.Intn(4)] {
		b.WriteString("next " + letters[i] + " := " + condition(pick) + ";")
	}
	for i := range 2 {
		b.WriteString("spec s" + strconv.Itoa(i) + " : AG ([" + condition(pick) + "] -> EF [" + pick() + "]);")
	}
	return b.String()
}

// names returns the variables in a term and in the definitions that it uses.
func names(m api.Module, t api.Term) (l []string) {
	now, next := terms.Names(t)
	for _, s := range append(now, next...) {
		i := slices.IndexFunc(m.Defs, func(d api.Def) bool { return d.Name == s })
		if i >= 0 {
			l = append(l, names(m, m.Defs[i].E)...)
		} else {
			l = append(l, s)
		}
	}
	return l
}

// namesOfForm returns the variables in a formula.
func namesOfForm(m api.Module, f api.Form) []string {
	l := names(m, f.E)
	for _, kid := range f.Kids {
		l = append(l, namesOfForm(m, kid)...)
	}
	return l
}

// related returns the names of Names: it adds variables that are directly related as long as there are any.
func related(m api.Module, l ...string) (r []string) {
	var sets [][]string
	for _, t := range slices.Concat(m.Init, m.Invar, m.Trans, m.Fair) {
		sets = append(sets, names(m, t))
	}
	for _, d := range m.Next {
		for _, s := range names(m, d.E) {
			sets = append(sets, []string{d.Name, s})
		}
	}
	for _, v := range m.Vars {
		if slices.Contains(l, v.Name) {
			r = append(r, v.Name)
		}
	}
	for at := 0; at < len(r); at++ {
		for _, set := range sets {
			for _, s := range set {
				if slices.Contains(set, r[at]) && !slices.Contains(r, s) {
					r = append(r, s)
				}
			}
		}
	}
	slices.Sort(r)
	return r
}

// part returns the module that Cut is to return.
func part(t *testing.T, m api.Module, l ...string) (n api.Module) {
	t.Helper()
	flat, _, e := defs.Flat(m)
	if e != api.OK {
		t.Fatal(e)
	}
	r := related(m, l...)
	in := func(s string) bool { return slices.Contains(r, s) }
	for _, v := range flat.Vars {
		if in(v.Name) {
			n.Vars = append(n.Vars, v)
		}
	}
	for _, d := range flat.Next {
		if in(d.Name) {
			n.Next = append(n.Next, d)
		}
	}
	for _, x := range []struct{ from, to *[]api.Term }{{&flat.Init, &n.Init}, {&flat.Invar, &n.Invar}, {&flat.Trans, &n.Trans}, {&flat.Fair, &n.Fair}} {
		for _, term := range *x.from {
			if l := names(flat, term); len(l) == 0 || slices.ContainsFunc(l, in) {
				*x.to = append(*x.to, term)
			}
		}
	}
	return n
}

// someNames returns names, some of which are those of definitions or none.
func someNames(r *rand.Rand) (l []string) {
	for range r.Intn(4) {
		l = append(l, append(letters, "k1", "x")[r.Intn(len(letters)+2)])
	}
	return l
}

func TestRandomModules(t *testing.T) {
	r := rand.New(rand.NewSource(55))
	small := 0
	for range 1500 {
		s := text(r)
		m := sample.Model(t, s)
		if p, e := typing.Check(m); e != api.OK {
			t.Fatal(s, p, e)
		}
		given := show(t, m)
		for range 3 {
			l := someNames(r)
			want := related(m, l...)
			got := cone.Names(m, l...)
			if !slices.Equal(got, want) {
				t.Fatalf("%s: %v: %v; want %v", s, l, got, want)
			}
			if again := cone.Names(m, got...); !slices.Equal(again, got) {
				t.Fatalf("%s: %v: %v", s, got, again)
			}
			n, e := cone.Cut(m, l...)
			is(t, s, show(t, part(t, m, l...)))(n, e)
			isPart(t, r, m, n)
			is(t, s, show(t, n))(cone.Cut(n, l...))
			if len(got) > 0 && len(got) < len(letters) {
				small++
			}
		}
		for i, spec := range m.Specs {
			n, e := cone.Spec(m, i)
			want := part(t, m, namesOfForm(m, spec.F)...)
			f, _ := defs.Form(spec.F, m.Defs)
			want.Specs = []api.Spec{{Name: spec.Name, F: f}}
			is(t, s, show(t, want))(n, e)
			isPart(t, r, m, n)
		}
		flat, _, _ := defs.Flat(m)
		flat.Specs = nil
		is(t, s, show(t, flat))(cone.Cut(m, letters...))
		if show(t, m) != given {
			t.Fatal("the argument has changed")
		}
	}
	if small < 500 {
		t.Errorf("only %d cones are not all or nothing", small)
	}
}

// isPart checks the derived properties of a part of m.
func isPart(t *testing.T, r *rand.Rand, m, n api.Module) {
	t.Helper()
	if p, e := typing.Check(n); e != api.OK || !cone.Right(m, n) {
		t.Fatalf("%s: %v, %d", show(t, n), p, e)
	}
	inPart := func(s string) bool {
		return slices.ContainsFunc(n.Vars, func(v api.Var) bool { return v.Name == s })
	}
	for _, term := range slices.Concat(m.Init, m.Invar, m.Trans, m.Fair) {
		l := names(m, term)
		if slices.ContainsFunc(l, inPart) && slices.ContainsFunc(l, func(s string) bool { return !inPart(s) }) {
			t.Fatalf("%s: %v", show(t, n), l)
		}
	}
	var state, next, values, later []int
	for _, v := range m.Vars {
		state, next = append(state, r.Intn(2)), append(next, r.Intn(2))
		if inPart(v.Name) {
			values, later = append(values, state[len(state)-1]), append(later, next[len(next)-1])
		}
	}
	if !typing.Is(n, values) {
		t.Fatalf("%s: %v", show(t, n), values)
	}
	for _, term := range slices.Concat(n.Init, n.Invar, n.Trans, n.Fair) {
		a, ok := terms.Eval(m.Vars, term, state, next)
		b, ok2 := terms.Eval(n.Vars, term, values, later)
		if a != b || !ok || !ok2 {
			t.Fatalf("%s: %v, %v; %v, %v", show(t, n), a, ok, b, ok2)
		}
	}
}
