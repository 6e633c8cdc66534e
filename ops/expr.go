package ops

import (
	"voussoir/api"
	"voussoir/dd"
	"voussoir/edge"
	"voussoir/given"
	"voussoir/prop"
)

// Of returns a new handle of the function of an expression.
func Of(m *dd.Man, x api.Expr) (h int, e api.Errno) {
	if e := given.Flaw(m, nil, nil); e != api.OK {
		return 0, e
	}
	if e := prop.Check(x); e != api.OK {
		return 0, e
	}
	if e := given.Flaw(m, nil, prop.Vars(x)); e != api.OK {
		return 0, e
	}
	return m.Do(func(c *dd.Ctx) edge.Edge { return of(c, x) })
}

// of returns the edge of a valid expression.
func of(x *dd.Ctx, e api.Expr) edge.Edge {
	kids := make([]edge.Edge, 0, len(e.Kids))
	for _, kid := range e.Kids {
		kids = append(kids, of(x, kid))
	}
	switch e.Op {
	case api.ETrue:
		return edge.One
	case api.EVar:
		return x.Mk(e.Var, edge.Zero, edge.One)
	case api.ENot:
		return kids[0].Not()
	case api.EAnd:
		return join(x, and, edge.One, kids...)
	case api.EOr:
		return join(x, or, edge.Zero, kids...)
	case api.EXor:
		return join(x, xor, edge.Zero, kids...)
	case api.EImp:
		return imp(x, kids[0], kids[1])
	case api.EIff:
		return iff(x, kids[0], kids[1])
	case api.EIte:
		return x.Ite(kids[0], kids[1], kids[2])
	}
	return edge.Zero
}
