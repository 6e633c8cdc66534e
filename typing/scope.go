package typing

import (
	"voussoir/api"
	"voussoir/defs"
	"voussoir/terms"
)

// scope is what the terms of a module can refer to.
type scope struct {
	m         api.Module
	variables map[string]api.Var
	meanings  map[string]api.Def // the definitions that have passed the checks, with expanded terms
}

func newScope(m api.Module) *scope {
	s := &scope{m, make(map[string]api.Var, len(m.Vars)), make(map[string]api.Def, len(m.Defs))}
	for _, v := range m.Vars {
		s.variables[v.Name] = v
	}
	return s
}

// names returns the names of the variables.
func (s *scope) names() names {
	n := make(names, len(s.variables))
	for name := range s.variables {
		n[name] = true
	}
	return n
}

// define returns what is wrong about the term of a definition, which can be referred to from then on.
func (s *scope) define(d api.Def) api.Errno {
	t, e := defs.Inline(d.E, s.m.Defs)
	if e != api.OK {
		return e
	}
	s.meanings[d.Name] = api.Def{Name: d.Name, E: t}
	_, e = terms.Type(s.m.Vars, t, false)
	return e
}

// condition returns what is wrong about a term that has to be Boolean.
func (s *scope) condition(t api.Term, next bool) api.Errno {
	return s.suited(t, next, true)
}

// suited returns what is wrong about a term that has to be Boolean or has to be an integer.
func (s *scope) suited(t api.Term, next, truth bool) api.Errno {
	y, e := s.typed(t, next)
	if e == api.OK && y.Bool != truth {
		return api.ErrType
	}
	return e
}

// typed returns the type of a term with its definitions inlined.
func (s *scope) typed(t api.Term, next bool) (y api.Type, e api.Errno) {
	t, e = s.inlined(t)
	if e != api.OK {
		return api.Type{}, e
	}
	return terms.Type(s.m.Vars, t, next)
}

// inlined is Inline with the definitions that are named in t; as their terms are expanded, it need not look at others.
func (s *scope) inlined(t api.Term) (x api.Term, e api.Errno) {
	if e := terms.Check(t); e != api.OK {
		return api.Term{}, e
	}
	var used []api.Def
	now, _ := terms.Names(t)
	for _, name := range now {
		if d, found := s.meanings[name]; found {
			used = append(used, d)
		}
	}
	return defs.Inline(t, used)
}

// form returns what is wrong about the terms of a formula.
func (s *scope) form(f api.Form) api.Errno {
	if f.Op == api.FTerm {
		return s.condition(f.E, false)
	}
	for _, kid := range f.Kids {
		if e := s.form(kid); e != api.OK {
			return e
		}
	}
	return api.OK
}
