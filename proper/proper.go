// Package proper tells whether formulas have a meaning in the states of a model.
package proper

import (
	"voussoir/api"
	"voussoir/forms"
	"voussoir/terms"
)

// Flaw returns what is wrong about a formula, or else about the first of its terms that is none over these variables or is a number.
func Flaw(vars []api.Var, f api.Form) api.Errno {
	if e := forms.Check(f); e != api.OK {
		return e
	}
	return flaw(vars, f)
}

// flaw returns what is wrong about the types of the terms of a valid formula.
func flaw(vars []api.Var, f api.Form) api.Errno {
	if f.Op == api.FTerm {
		y, e := terms.Type(vars, f.E, false)
		if e == api.OK && !y.Bool {
			return api.ErrType
		}
		return e
	}
	for _, kid := range f.Kids {
		if e := flaw(vars, kid); e != api.OK {
			return e
		}
	}
	return api.OK
}
