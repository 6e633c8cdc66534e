package paths

import (
	"slices"

	"voussoir/api"
	"voussoir/defs"
	"voussoir/forms"
	"voussoir/terms"
	"voussoir/typing"
)

// model is a valid module without definitions.
type model struct {
	api.Module
	defs []api.Def // those of which formulas may speak
}

// newModel returns the model of a module, if that is valid.
func newModel(mod api.Module) (m model, ok bool) {
	if _, e := typing.Check(mod); e != api.OK {
		return model{}, false
	}
	flat, _, e := defs.Flat(mod)
	return model{flat, mod.Defs}, e == api.OK
}

// holds reports whether a Boolean term is true in a state s with a successor n.
func (m model) holds(t api.Term, s, n []int) bool {
	v, _ := terms.Eval(m.Vars, t, s, n)
	return v == 1
}

// all reports whether all Boolean terms are true.
func (m model) all(l []api.Term, s, n []int) bool {
	return !slices.ContainsFunc(l, func(t api.Term) bool { return !m.holds(t, s, n) })
}

// is reports whether s is a state.
func (m model) is(s []int) bool {
	return typing.Is(m.Module, s) && m.all(m.Invar, s, nil)
}

// step reports whether there is a transition from s to n.
func (m model) step(s, n []int) bool {
	return m.is(s) && m.is(n) && m.moves(s, n)
}

// moves is step for two states.
func (m model) moves(s, n []int) bool {
	differs := func(d api.Def) bool {
		i := slices.IndexFunc(m.Vars, func(v api.Var) bool { return v.Name == d.Name })
		v, _ := terms.Eval(m.Vars, d.E, s, nil)
		return n[i] != v
	}
	return !slices.ContainsFunc(m.Next, differs) && m.all(m.Trans, s, n)
}

// lasso reports whether path is a fair path that goes on from its end with the state at index loop.
func (m model) lasso(path [][]int, loop int) bool {
	if loop < 0 || loop >= len(path) {
		return false
	}
	for _, s := range path {
		if !m.is(s) {
			return false
		}
	}
	for i, s := range path {
		next := loop
		if i < len(path)-1 {
			next = i + 1
		}
		if !m.moves(s, path[next]) {
			return false
		}
	}
constraints:
	for _, t := range m.Fair {
		for _, s := range path[loop:] {
			if m.holds(t, s, nil) {
				continue constraints
			}
		}
		return false
	}
	return true
}

// truth returns the value of f in a state, if f is valid and plain and all its terms are Boolean.
func (m model) truth(f api.Form, s []int) (yes, ok bool) {
	f, e := defs.Form(f, m.defs)
	if e != api.OK || !forms.Plain(f) {
		return false, false
	}
	return m.value(f, s)
}

// value returns the value of a valid plain formula without definitions, if all its terms are Boolean.
func (m model) value(f api.Form, s []int) (yes, ok bool) {
	if f.Op == api.FTerm {
		y, e := terms.Type(m.Vars, f.E, false)
		if e != api.OK || !y.Bool {
			return false, false
		}
		return m.holds(f.E, s, nil), true
	}
	var values []bool
	for _, kid := range f.Kids {
		yes, ok := m.value(kid, s)
		if !ok {
			return false, false
		}
		values = append(values, yes)
	}
	switch f.Op {
	case api.FNot:
		return !values[0], true
	case api.FAnd:
		return values[0] && values[1], true
	case api.FOr:
		return values[0] || values[1], true
	}
	return !values[0] || values[1], true
}
