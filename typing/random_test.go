package typing_test

import (
	"math/rand"
	"slices"
	"testing"

	"voussoir/api"
	"voussoir/defs"
	"voussoir/forms"
	"voussoir/lexi"
	"voussoir/terms"
	"voussoir/typing"
)

// maker makes modules, most of which have an error or none.
type maker struct {
	*rand.Rand
	odd int // how many of a hundred parts are made without care
}

func (r maker) careless() bool { return r.Intn(100) < r.odd }

// term returns a term of that kind over variables b1, b2, n1, n2 and definitions d1 to d3 (Boolean) and e1 to e3.
func (r maker) term(truth, next bool, depth int) api.Term {
	if r.careless() {
		truth = !truth
	}
	if r.careless() {
		return []api.Term{name("x"), {}, {Op: api.TNext, Name: "b1"}, num(300), op(api.TNot), op(api.TMod, name("n1"), num(0))}[r.Intn(6)]
	}
	pick := func(l ...string) string { return l[r.Intn(len(l))] }
	if depth <= 1 {
		leaf := []api.Term{num(r.Intn(7) - 3), name(pick("n1", "n2", "e1", "e2", "e3"))}[r.Intn(2)]
		if truth {
			leaf = []api.Term{{Op: api.TBool, N: r.Intn(2)}, name(pick("b1", "b2", "d1", "d2", "d3"))}[r.Intn(2)]
		}
		if next && r.Intn(2) == 0 {
			leaf = api.Term{Op: api.TNext, Name: pick("n1", "n2")}
			if truth {
				leaf.Name = pick("b1", "b2")
			}
		}
		return leaf
	}
	kid := func(truth bool) api.Term { return r.term(truth, next, depth-1-r.Intn(2)) }
	if !truth {
		switch r.Intn(4) {
		case 0:
			return op(api.TMod, kid(false), num(1+r.Intn(4)))
		case 1:
			return op(api.TIf, kid(true), kid(false), kid(false))
		}
		return op(api.TAdd+r.Intn(3), kid(false), kid(false))
	}
	switch r.Intn(5) {
	case 0:
		return op(api.TNot, kid(true))
	case 1:
		return op(api.TAnd+r.Intn(4), kid(true), kid(true))
	case 2:
		return op(api.TIf, kid(true), kid(true), kid(true))
	}
	return op(api.TEq+r.Intn(4), kid(false), kid(false))
}

func (r maker) form(depth int) api.Form {
	if depth <= 1 {
		return form(r.term(true, false, 1+r.Intn(3)))
	}
	switch k := api.FNot + r.Intn(12); k {
	case api.FAnd, api.FOr, api.FImp, api.FEU, api.FAU:
		return api.Form{Op: k, Kids: []api.Form{r.form(depth - 1), r.form(1)}}
	default:
		return api.Form{Op: k, Kids: []api.Form{r.form(depth - 1)}}
	}
}

func (r maker) module() (m api.Module) {
	m.Vars = []api.Var{{Name: "b1", Bool: true}, {Name: "n1", Lo: -1, Hi: 1}, {Name: "b2", Bool: true}, {Name: "n2", Lo: 2, Hi: 3}}
	if r.careless() {
		m.Vars[r.Intn(4)] = []api.Var{{Name: "b1", Bool: true}, {Name: "n3", Lo: 2}, {Name: "U", Bool: true}, {Name: "d1"}, {Name: "n1", Hi: 64}}[r.Intn(5)]
	}
	alone := []api.Term{name("b2"), num(1), op(api.TNot, name("b1")), num(-3), yes, name("n1")}
	built := []api.Term{yes, op(api.TSub, name("n1"), name("n2")), op(api.TNot, name("d1")), op(api.TIf, name("d2"), name("n1"), name("e1")), op(api.TLe, name("e2"), num(2)), op(api.TSub, name("e1"), name("n2"))}
	for i, s := range []string{"d1", "e1", "d2", "e2", "d3", "e3"} {
		t := [][]api.Term{alone, built}[r.Intn(2)][i]
		if r.careless() {
			t = r.term(i%2 == 0, false, 1+r.Intn(3))
		}
		m.Defs = append(m.Defs, api.Def{Name: s, E: t})
	}
	if r.careless() {
		m.Defs[r.Intn(6)].Name = []string{"d1", "b1", "x", "if"}[r.Intn(4)]
	}
	r.Shuffle(len(m.Defs), func(i, j int) { m.Defs[i], m.Defs[j] = m.Defs[j], m.Defs[i] })
	for _, l := range []*[]api.Term{&m.Init, &m.Invar, &m.Fair} {
		for range r.Intn(3) {
			*l = append(*l, r.term(true, false, 1+r.Intn(4)))
		}
	}
	for range r.Intn(3) {
		m.Trans = append(m.Trans, r.term(true, true, 1+r.Intn(4)))
	}
	for _, i := range r.Perm(4)[:r.Intn(5)] {
		m.Next = append(m.Next, api.Def{Name: []string{"b1", "n1", "b2", "n2"}[i], E: r.term(i%2 == 0, false, 1+r.Intn(3))})
	}
	if len(m.Next) > 0 && r.careless() {
		m.Next = append(m.Next, api.Def{Name: []string{"x", "d1", m.Next[0].Name}[r.Intn(3)], E: yes})
	}
	for i := range r.Intn(3) {
		m.Specs = append(m.Specs, api.Spec{Name: []string{"p", "q"}[i], F: r.form(1 + r.Intn(3))})
	}
	if r.careless() {
		m.Specs = append(m.Specs, api.Spec{Name: []string{"p", "AG"}[r.Intn(2)], F: form(yes)})
	}
	return m
}

// slow is Check for modules with few declarations and bits, as its words say.
func slow(m api.Module) (p api.Place, e api.Errno) {
	type flaw struct {
		kind, i int
		e       api.Errno
	}
	var l []flaw
	note := func(kind, i int, e api.Errno) { l = append(l, flaw{kind, i, e}) }
	note(api.InVars, 0, api.OK)
	if i, e := typing.Vars(m.Vars); e != api.OK {
		note(api.InVars, i, e)
	}
	isVar := func(s string) int { return slices.IndexFunc(m.Vars, func(v api.Var) bool { return v.Name == s }) }
	named := func(kind, i int, s string, before []string) {
		if !lexi.Is(s) {
			note(kind, i, api.ErrName)
		}
		if slices.Contains(before, s) {
			note(kind, i, api.ErrTwice)
		}
	}
	var before []string
	for _, v := range m.Vars {
		before = append(before, v.Name)
	}
	for i, d := range m.Defs {
		named(api.InDefs, i, d.Name, before)
		before = append(before, d.Name)
	}
	depends := make([][]bool, len(m.Defs))
	for i, d := range m.Defs {
		names, _ := terms.Names(d.E)
		for _, other := range m.Defs {
			depends[i] = append(depends[i], slices.Contains(names, other.Name))
		}
	}
	for k := range depends {
		for i := range depends {
			for j := range depends {
				depends[i][j] = depends[i][j] || depends[i][k] && depends[k][j]
			}
		}
	}
	for i := range depends {
		if depends[i][i] {
			note(api.InDefs, i, api.ErrCycle)
		}
	}
	typed := func(kind, i int, t api.Term, next bool) (y api.Type) {
		x, e := defs.Inline(t, m.Defs)
		note(kind, i, e)
		if e == api.OK {
			y, e = terms.Type(m.Vars, x, next)
			note(kind, i, e)
		}
		return y
	}
	truths := func(kind, i int, t api.Term, next, want bool) {
		if y := typed(kind, i, t, next); y.Bool != want {
			note(kind, i, api.ErrType)
		}
	}
	for i, d := range m.Defs {
		typed(api.InDefs, i, d.E, false)
	}
	for i, t := range m.Init {
		truths(api.InInit, i, t, false, true)
	}
	for i, t := range m.Invar {
		truths(api.InInvar, i, t, false, true)
	}
	for i, d := range m.Next {
		at := isVar(d.Name)
		if at < 0 {
			note(api.InNext, i, api.ErrName)
			break
		}
		if slices.ContainsFunc(m.Next[:i], func(other api.Def) bool { return other.Name == d.Name }) {
			note(api.InNext, i, api.ErrTwice)
		}
		truths(api.InNext, i, d.E, false, m.Vars[at].Bool)
	}
	for i, t := range m.Trans {
		truths(api.InTrans, i, t, true, true)
	}
	for i, t := range m.Fair {
		truths(api.InFair, i, t, false, true)
	}
	before = nil
	for i, s := range m.Specs {
		named(api.InSpecs, i, s.Name, before)
		before = append(before, s.Name)
		note(api.InSpecs, i, forms.Check(s.F))
		for _, part := range forms.Parts(s.F) {
			if part.Op == api.FTerm {
				truths(api.InSpecs, i, part.E, false, true)
			}
		}
	}
	for _, x := range l {
		if x.e != api.OK {
			return api.Place{Kind: x.kind, I: x.i}, x.e
		}
	}
	return api.Place{}, api.OK
}

func TestRandomModules(t *testing.T) {
	r := rand.New(rand.NewSource(36))
	answers := map[api.Place]map[api.Errno]int{}
	for i := range 20000 {
		m := maker{r, i % 8}.module()
		p, e := typing.Check(m)
		if want, fault := slow(m); p != want || e != fault {
			t.Fatalf("%v: %v, %d; want %v, %d", m, p, e, want, fault)
		}
		p.I = 0
		if answers[p] == nil {
			answers[p] = map[api.Errno]int{}
		}
		answers[p][e]++
	}
	if answers[api.Place{}][api.OK] < 2000 || len(answers) != 9 {
		t.Error(answers)
	}
	for _, e := range []api.Errno{api.ErrName, api.ErrTwice, api.ErrCycle, api.ErrType, api.ErrPlace} {
		if answers[api.Place{Kind: api.InDefs}][e] < 5 {
			t.Error(e, answers)
		}
	}
}

// states returns the states for which Is is true.
func states(m api.Module) (l [][]int) {
	for b1 := range 4 {
		for n1 := range 5 {
			for b2 := range 4 {
				for n2 := range 6 {
					if s := []int{b1 - 1, n1 - 2, b2 - 1, n2}; typing.Is(m, s) {
						l = append(l, s)
					}
				}
			}
		}
	}
	return l
}

// has checks the value of a term with its definitions inlined.
func has(t *testing.T, m api.Module, x api.Term, s, n []int) {
	t.Helper()
	x, e := defs.Inline(x, m.Defs)
	if e != api.OK {
		t.Fatal(e)
	}
	y, e := terms.Type(m.Vars, x, n != nil)
	if y.Bool {
		y.Hi = 1
	}
	if v, ok := terms.Eval(m.Vars, x, s, n); e != api.OK || !ok || v < y.Lo || v > y.Hi {
		t.Fatalf("%v at %v, %v: %d, %v; %v, %d", x, s, n, v, ok, y, e)
	}
}

func TestValidModulesHaveAMeaning(t *testing.T) {
	r := rand.New(rand.NewSource(37))
	tried := 0
	for range 1500 {
		m := maker{r, 1}.module()
		if _, e := typing.Check(m); e != api.OK {
			continue
		}
		tried++
		flat, _, e := defs.Flat(m)
		if e != api.OK {
			t.Fatal(e)
		}
		checks(t, "inlined", flat, 0, 0, api.OK)
		checks(t, "without declarations", api.Module{Vars: m.Vars, Defs: m.Defs}, 0, 0, api.OK)
		fewer := m
		fewer.Init, fewer.Next, fewer.Specs = m.Init[:len(m.Init)/2], m.Next[len(m.Next)/2:], nil
		checks(t, "with fewer declarations", fewer, 0, 0, api.OK)
		l := states(m)
		if n, ok := typing.States(m); n != len(l) || !ok {
			t.Fatal(n, ok, len(l))
		}
		if tried > 150 {
			continue
		}
		for i, s := range l {
			for _, x := range slices.Concat(m.Init, m.Invar, m.Fair) {
				has(t, m, x, s, nil)
			}
			for _, d := range slices.Concat(m.Defs, m.Next) {
				has(t, m, d.E, s, nil)
			}
			for _, x := range m.Trans {
				has(t, m, x, s, l[(7*i+3)%len(l)])
			}
			for _, spec := range m.Specs {
				for _, part := range forms.Parts(spec.F) {
					if part.Op == api.FTerm {
						has(t, m, part.E, s, nil)
					}
				}
			}
		}
	}
	if tried < 400 {
		t.Error(tried)
	}
}
