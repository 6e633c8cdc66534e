package cubes

import (
	"voussoir/api"
	"voussoir/dd"
	"voussoir/edge"
	"voussoir/given"
)

// implied are the variables that are false wherever a function is true, and those that are true there, a bit each.
type implied struct{ no, yes uint64 }

// Essential returns the literals that f implies.
func Essential(m *dd.Man, f int) (l []api.Lit, e api.Errno) {
	if e := given.Empty(m, f); e != api.OK {
		return nil, e
	}
	e = m.Look(func(x *dd.Ctx) { l = essential(x, x.Edge(f)).literals() })
	return l, e
}

// essential returns what f implies: what is implied on both ways on, where each way implies its own literal.
func essential(x *dd.Ctx, f edge.Edge) implied {
	const all = 1<<api.MaxVars - 1
	done := map[edge.Edge]implied{edge.One: {}, edge.Zero: {all, all}} // what is never true implies everything
	var visit func(f edge.Edge) implied
	visit = func(f edge.Edge) implied {
		r, found := done[f]
		if !found {
			w := ways(x, f)
			no, yes := visit(w[0].to), visit(w[1].to)
			no.no |= 1 << w[0].lit.Var
			yes.yes |= 1 << w[1].lit.Var
			r = implied{no.no & yes.no, no.yes & yes.yes}
			done[f] = r
		}
		return r
	}
	return visit(f)
}

// literals returns what is implied as literals in increasing order of variable.
func (i implied) literals() (l []api.Lit) {
	for v := range api.MaxVars {
		switch {
		case i.no>>v&1 == 1:
			l = append(l, api.Lit{Var: v})
		case i.yes>>v&1 == 1:
			l = append(l, api.Lit{Var: v, Yes: true})
		}
	}
	return l
}
