package typing

import (
	"voussoir/api"
	"voussoir/forms"
	"voussoir/lexi"
	"voussoir/terms"
)

// check tells what is wrong about the declarations of a kind. They are asked for in order, up to the first one that is wrong.
type check interface {
	many() int
	flaw(i int) api.Errno
}

// first returns the index and the error of the first declaration that is wrong.
func first(c check) (i int, e api.Errno) {
	for i := range c.many() {
		if e := c.flaw(i); e != api.OK {
			return i, e
		}
	}
	return 0, api.OK
}

// names are the names that have been declared.
type names map[string]bool

// flaw returns what is wrong about declaring a name, which is declared from then on.
func (n names) flaw(name string) api.Errno {
	switch {
	case !lexi.Is(name):
		return api.ErrName
	case n[name]:
		return api.ErrTwice
	}
	n[name] = true
	return api.OK
}

// variables checks variables.
type variables struct {
	l    []api.Var
	seen names
}

func (c variables) many() int { return len(c.l) }

func (c variables) flaw(i int) api.Errno {
	v := c.l[i]
	if e := c.seen.flaw(v.Name); e != api.OK {
		return e
	}
	outside := min(v.Lo, v.Hi) < -api.MaxValue || max(v.Lo, v.Hi) > api.MaxValue
	switch {
	case v.Bool && (v.Lo != 0 || v.Hi != 0):
		return api.ErrForm
	case !v.Bool && (v.Lo > v.Hi || outside || Span(v) > api.MaxSpan):
		return api.ErrRange
	}
	return api.OK
}

// width checks how many bits the variables have together.
type width int

func (w width) many() int { return 1 }

func (w width) flaw(i int) api.Errno {
	if w > api.MaxBits {
		return api.ErrMany
	}
	return api.OK
}

// defNames checks the names of definitions.
type defNames struct {
	l    []api.Def
	seen names // at first those of the variables
}

func (c defNames) many() int { return len(c.l) }

func (c defNames) flaw(i int) api.Errno {
	return c.seen.flaw(c.l[i].Name)
}

// cycles checks whether definitions depend on themselves.
type cycles struct {
	l    []api.Def
	uses map[string][]string // for each definition, the names in its term
}

func newCycles(l []api.Def) cycles {
	c := cycles{l, make(map[string][]string, len(l))}
	for _, d := range l {
		c.uses[d.Name], _ = terms.Names(d.E)
	}
	return c
}

func (c cycles) many() int { return len(c.l) }

func (c cycles) flaw(i int) api.Errno {
	start := c.l[i].Name
	reached := map[string]bool{}
	for next := []string{start}; len(next) > 0; next = next[1:] {
		for _, name := range c.uses[next[0]] {
			if !reached[name] {
				reached[name] = true
				next = append(next, name)
			}
		}
	}
	if reached[start] {
		return api.ErrCycle
	}
	return api.OK
}

// defTerms checks the terms of definitions.
type defTerms struct{ *scope }

func (c defTerms) many() int { return len(c.m.Defs) }

func (c defTerms) flaw(i int) api.Errno {
	return c.define(c.m.Defs[i])
}

// conditions checks terms that have to be Boolean; in some of them next values may occur.
type conditions struct {
	*scope
	l    []api.Term
	next bool
}

func (c conditions) many() int { return len(c.l) }

func (c conditions) flaw(i int) api.Errno {
	return c.condition(c.l[i], c.next)
}

// nexts checks the next values of variables.
type nexts struct {
	*scope
	seen names
}

func (c nexts) many() int { return len(c.m.Next) }

func (c nexts) flaw(i int) api.Errno {
	d := c.m.Next[i]
	v, found := c.variables[d.Name]
	switch {
	case !found:
		return api.ErrName
	case c.seen[d.Name]:
		return api.ErrTwice
	}
	c.seen[d.Name] = true
	return c.suited(d.E, false, v.Bool)
}

// specs checks specifications.
type specs struct {
	*scope
	seen names
}

func (c specs) many() int { return len(c.m.Specs) }

func (c specs) flaw(i int) api.Errno {
	s := c.m.Specs[i]
	if e := c.seen.flaw(s.Name); e != api.OK {
		return e
	}
	if e := forms.Check(s.F); e != api.OK {
		return e
	}
	return c.form(s.F)
}
