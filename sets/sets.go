// Package sets looks at sets of states: whether a handle is one, whether a state is in it, and which of its states is the least.
package sets

import (
	"slices"

	"voussoir/api"
	"voussoir/enc"
	"voussoir/given"
	"voussoir/ops"
	"voussoir/rel"
	"voussoir/satp"
	"voussoir/supp"
	"voussoir/vset"
)

// Flaw returns what is wrong about a relation, or else about the first of l that is no handle, or else about the first that is no set.
func Flaw(r *rel.Rel, l ...int) api.Errno {
	return Among(r, r.Layout().AllNow(), l...)
}

// Among is Flaw for functions that are to depend on these variables only.
func Among(r *rel.Rel, vars []int, l ...int) api.Errno {
	m := r.Man()
	if e := given.Flaw(m, l, nil); e != api.OK {
		return e
	}
	for _, h := range l {
		used, e := supp.Support(m, h)
		switch {
		case e != api.OK:
			return e
		case !vset.Within(used, vars):
			return api.ErrArg
		}
	}
	return api.OK
}

// Code returns the bits of a state of the relation.
func Code(r *rel.Rel, s []int) (b []bool, e api.Errno) {
	b, e = r.Layout().Code(s)
	if e != api.OK {
		return nil, e
	}
	valid, e := eval(r, r.Valid(), b)
	switch {
	case e != api.OK:
		return nil, e
	case !valid:
		return nil, api.ErrState
	}
	return b, api.OK
}

// Has reports whether a set contains a state of the relation.
func Has(r *rel.Rel, set int, s []int) (yes bool, e api.Errno) {
	b, e := Code(r, s)
	if e != api.OK {
		return false, e
	}
	return eval(r, set, b)
}

// eval returns the value of a set at the bits of a state.
func eval(r *rel.Rel, set int, b []bool) (yes bool, e api.Errno) {
	at := make([]bool, r.Man().Vars())
	for i, v := range r.Layout().AllNow() {
		at[v] = b[i]
	}
	return r.Man().Eval(set, at)
}

// HighFirst returns a list that has an element for each bit, with the elements of each variable's bits the other way round. As the highest bit of a variable is first there, lists of bits are in the order of the states that they encode. What it returns for such a list is the first list again.
func HighFirst[T any](l enc.Layout, bits []T) []T {
	bits = slices.Clone(bits)
	for i, at := range l.At {
		slices.Reverse(bits[at : at+l.Bits[i]])
	}
	return bits
}

// Least returns the first of the states that are in all of these sets.
func Least(r *rel.Rel, l ...int) (s []int, e api.Errno) {
	m, layout := r.Man(), r.Layout()
	both, e := ops.And(m, slices.Concat(l, []int{r.Valid()})...)
	if e != api.OK {
		return nil, e
	}
	defer m.Drop(both)
	b, e := satp.Least(m, both, HighFirst(layout, layout.AllNow())...)
	if e != api.OK {
		return nil, e
	}
	return layout.State(HighFirst(layout, b))
}
