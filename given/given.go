// Package given checks what functions are given that take a manager.
package given

import (
	"voussoir/api"
	"voussoir/dd"
	"voussoir/vset"
)

// Flaw returns what is wrong about the manager, or else about the first of the handles that is none, or else about the first of the variables that is none.
func Flaw(m *dd.Man, handles, vars []int) api.Errno {
	if m == nil {
		return api.ErrNone
	}
	for _, h := range handles {
		if !m.Is(h) {
			return api.ErrHandle
		}
	}
	for _, v := range vars {
		if v < 0 || v >= m.Vars() {
			return api.ErrVar
		}
	}
	return api.OK
}

// Literals returns what Flaw returns for the variables of l, or else what is wrong about them together: that one occurs twice.
func Literals(m *dd.Man, handles []int, l []api.Lit) api.Errno {
	vars := make([]int, 0, len(l))
	for _, lit := range l {
		vars = append(vars, lit.Var)
	}
	return Distinct(m, handles, vars)
}

// Distinct returns what Flaw returns, or else what is wrong about the variables together: that one occurs twice.
func Distinct(m *dd.Man, handles, vars []int) api.Errno {
	if e := Flaw(m, handles, vars); e != api.OK {
		return e
	}
	if len(vset.Of(vars...)) < len(vars) {
		return api.ErrTwice
	}
	return api.OK
}

// Empty returns ErrEmpty if f is constantly false, or what Flaw returns.
func Empty(m *dd.Man, f int) api.Errno {
	never, e := m.Same(f, m.Const(false))
	if never {
		return api.ErrEmpty
	}
	return e
}
