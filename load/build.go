package load

import (
	"voussoir/api"
	"voussoir/dd"
	"voussoir/defs"
	"voussoir/group"
	"voussoir/perm"
	"voussoir/rel"
	"voussoir/reorder"
	"voussoir/typing"
)

// grow is by how many percent the parts of the relation may grow for a while when variables are sifted.
const grow = 120

// Of returns the model of a module, and the place of what is wrong with that.
func Of(mod api.Module, o api.Opts) (m *Model, p api.Place, e api.Errno) {
	if p, e := typing.Check(mod); e != api.OK {
		return nil, p, e
	}
	vars := 2 * typing.Bits(mod)
	if e := flaw(o, vars); e != api.OK {
		return nil, api.Place{}, e
	}
	m, e = build(mod, o, vars)
	return m, api.Place{}, e
}

// flaw returns what is wrong about options for a manager of so many variables.
func flaw(o api.Opts, vars int) api.Errno {
	switch {
	case o.Room < 1 || o.Room > api.MaxRoom:
		return api.ErrRange
	case len(o.Order) > 0 && (len(o.Order) != vars || !perm.Right(o.Order)):
		return api.ErrArg
	}
	idle, e := dd.New(vars, 1)
	if e != api.OK {
		return e
	}
	return idle.Plan(o.Events...)
}

// build returns the model of a valid module, with right options.
func build(mod api.Module, o api.Opts, vars int) (m *Model, e api.Errno) {
	man, e := dd.New(vars, o.Room)
	if e != api.OK {
		return nil, e
	}
	if len(o.Order) > 0 {
		if e := reorder.To(man, o.Order); e != api.OK {
			return nil, e
		}
	}
	r, e := rel.New(man, mod)
	if e != api.OK {
		return nil, e
	}
	defer func() {
		if e != api.OK {
			r.Close()
		}
	}()
	if o.Sift {
		if e := sift(r); e != api.OK {
			return nil, e
		}
	}
	if e := man.Plan(o.Events...); e != api.OK {
		return nil, e
	}
	return &Model{loaded{r, copied(mod), o.Narrow}}, api.OK
}

// sift looks for an order in which the parts of a relation are small, and in which each bit of the next state follows that of the current one.
func sift(r *rel.Rel) api.Errno {
	layout := r.Layout()
	next := layout.AllNext()
	var pairs [][]int
	for i, now := range layout.AllNow() {
		pairs = append(pairs, []int{now, next[i]})
	}
	groups, e := group.New(r.Man(), pairs...)
	if e != api.OK {
		return e
	}
	_, e = groups.Sift(grow, r.Parts()...)
	return e
}

// copied returns a valid module in memory of its own.
func copied(mod api.Module) api.Module {
	definitions := mod.Defs
	mod.Defs = nil
	mod, _, _ = defs.Flat(mod) // without definitions it comes out as it is
	for _, d := range definitions {
		d.E, _ = defs.Inline(d.E, nil)
		mod.Defs = append(mod.Defs, d)
	}
	return mod
}
