package rel

import (
	"slices"

	"voussoir/api"
	"voussoir/blast"
	"voussoir/dd"
	"voussoir/ops"
)

// build makes the handles that r owns. If it fails, it leaves those that it has made.
func (r *relation) build() (e api.Errno) {
	if r.valid, e = r.states(false); e != api.OK {
		return e
	}
	if r.init, e = r.within(r.valid, r.mod.Init...); e != api.OK {
		return e
	}
	fair := func(t api.Term) (int, api.Errno) { return r.within(r.valid, t) }
	if r.fair, e = each(r.m, r.mod.Fair, fair); e != api.OK {
		return e
	}
	equal := func(d api.Def) (int, api.Errno) { return blast.Equal(r.m, r.Layout, r.Index(d.Name), d.E) }
	if r.parts, e = each(r.m, r.mod.Next, equal); e != api.OK {
		return e
	}
	trans, e := each(r.m, r.mod.Trans, r.truth)
	if e != api.OK {
		return e
	}
	r.parts = append(r.parts, trans...)
	ends, e := r.ends()
	if e != api.OK {
		return e
	}
	r.parts = append(r.parts, ends)
	return api.OK
}

// each returns the handles that of returns for the elements of l. If it fails for one of them, those before are dropped.
func each[T any](m *dd.Man, l []T, of func(x T) (h int, e api.Errno)) (handles []int, e api.Errno) {
	defer func() {
		if e != api.OK {
			m.Drop(handles...)
			handles = nil
		}
	}()
	for _, x := range l {
		h, e := of(x)
		if e != api.OK {
			return handles, e
		}
		handles = append(handles, h)
	}
	return handles, api.OK
}

// truth returns a new handle of the function that is true where a term is.
func (r *relation) truth(t api.Term) (h int, e api.Errno) {
	return blast.Truth(r.m, r.Layout, t)
}

// within returns a new handle of the function that is true where the function of set and all terms are.
func (r *relation) within(set int, l ...api.Term) (h int, e api.Errno) {
	truths, e := each(r.m, l, r.truth)
	if e != api.OK {
		return 0, e
	}
	defer r.m.Drop(truths...)
	return ops.And(r.m, append(truths, set)...)
}

// states returns a new handle of the function that is true where the bits of the current or of the next state are those of a state.
func (r *relation) states(next bool) (h int, e api.Errno) {
	encoded, e := blast.Valid(r.m, r.Layout, next)
	if e != api.OK {
		return 0, e
	}
	defer r.m.Drop(encoded)
	invar := r.mod.Invar
	if next {
		invar = later(invar)
	}
	return r.within(encoded, invar...)
}

// later returns the terms with all variables in the next state.
func later(l []api.Term) []api.Term {
	l = slices.Clone(l)
	for i, t := range l {
		if t.Op == api.TName {
			l[i].Op = api.TNext
		}
		l[i].Kids = later(t.Kids)
	}
	return l
}

// ends returns a new handle of the function that is true where the current and the next bits are those of states.
func (r *relation) ends() (h int, e api.Errno) {
	next, e := r.states(true)
	if e != api.OK {
		return 0, e
	}
	defer r.m.Drop(next)
	return ops.And(r.m, r.valid, next)
}
