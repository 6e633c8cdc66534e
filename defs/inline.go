package defs

import (
	"slices"

	"voussoir/api"
	"voussoir/forms"
	"voussoir/terms"
)

// expander replaces the names of definitions by the terms for which they stand.
type expander struct {
	*book
	sound map[int]bool // the definitions that depend on none that depends on itself
}

func newExpander(l []api.Def) *expander {
	x := &expander{newBook(l), map[int]bool{}}
	for _, i := range x.order() {
		x.sound[i] = true
	}
	return x
}

// Inline returns t with the names of definitions replaced.
func Inline(t api.Term, l []api.Def) (x api.Term, e api.Errno) {
	return newExpander(l).term(t)
}

// Form returns f with the names of definitions replaced in its terms.
func Form(f api.Form, l []api.Def) (g api.Form, e api.Errno) {
	return newExpander(l).form(f)
}

// term is Inline.
func (x *expander) term(t api.Term) (api.Term, api.Errno) {
	if e := terms.Check(t); e != api.OK {
		return api.Term{}, e
	}
	for _, i := range x.used(t) {
		if !x.sound[i] {
			return api.Term{}, api.ErrCycle
		}
	}
	t = x.expand(t)
	if e := terms.Check(t); e != api.OK {
		return api.Term{}, e
	}
	return t, api.OK
}

// expand returns t, which uses sound definitions only, with names replaced as far as Check looks. The whole may be too great to be written down.
func (x *expander) expand(t api.Term) api.Term {
	left := api.MaxSize + 1
	var copied func(t api.Term) api.Term
	copied = func(t api.Term) api.Term {
		t = x.meaning(t)
		left--
		t.Kids = slices.Clone(t.Kids)
		for i := 0; i < len(t.Kids) && left > 0; i++ {
			t.Kids[i] = copied(t.Kids[i])
		}
		return t
	}
	return copied(t)
}

// meaning returns t or, if it is the name of a definition, the term for which it stands.
func (x *expander) meaning(t api.Term) api.Term {
	for t.Op == api.TName {
		i, found := x.places[t.Name]
		if !found {
			break
		}
		t = x.defs[i].E
	}
	return t
}

// form is Form.
func (x *expander) form(f api.Form) (api.Form, api.Errno) {
	if e := forms.Check(f); e != api.OK {
		return api.Form{}, e
	}
	fault := api.OK
	var copied func(f api.Form) api.Form
	copied = func(f api.Form) api.Form {
		if f.Op == api.FTerm && fault == api.OK {
			f.E, fault = x.term(f.E)
		}
		f.Kids = slices.Clone(f.Kids)
		for i, kid := range f.Kids {
			f.Kids[i] = copied(kid)
		}
		return f
	}
	f = copied(f)
	if fault != api.OK {
		return api.Form{}, fault
	}
	return f, api.OK
}

// Flat returns m without definitions, with their names replaced in all terms and formulas.
func Flat(m api.Module) (n api.Module, p api.Place, e api.Errno) {
	x := newExpander(m.Defs)
	named := func(d api.Def) (api.Def, api.Errno) {
		t, e := x.term(d.E)
		return api.Def{Name: d.Name, E: t}, e
	}
	spec := func(s api.Spec) (api.Spec, api.Errno) {
		f, e := x.form(s.F)
		return api.Spec{Name: s.Name, F: f}, e
	}
	r := refusal{}
	n = api.Module{
		Vars:  slices.Clone(m.Vars),
		Init:  expandAll(&r, api.InInit, m.Init, x.term),
		Invar: expandAll(&r, api.InInvar, m.Invar, x.term),
		Next:  expandAll(&r, api.InNext, m.Next, named),
		Trans: expandAll(&r, api.InTrans, m.Trans, x.term),
		Fair:  expandAll(&r, api.InFair, m.Fair, x.term),
		Specs: expandAll(&r, api.InSpecs, m.Specs, spec),
	}
	if r.fault != api.OK {
		return api.Module{}, r.place, r.fault
	}
	return n, api.Place{}, api.OK
}

// refusal tells which declaration can't be expanded, and why, if there is one.
type refusal struct {
	place api.Place
	fault api.Errno
}

// expandAll returns the declarations of that kind as expand makes them, unless one is refused or r tells that one was.
func expandAll[T any](r *refusal, kind int, l []T, expand func(T) (T, api.Errno)) []T {
	var done []T
	for i, declaration := range l {
		if r.fault != api.OK {
			return nil
		}
		x, e := expand(declaration)
		*r = refusal{api.Place{Kind: kind, I: i}, e}
		done = append(done, x)
	}
	return done
}
