package dump

import (
	"voussoir/api"
	"voussoir/dd"
	"voussoir/edge"
	"voussoir/given"
)

// Load returns new handles of the functions of the roots.
func Load(m *dd.Man, rows []api.Row, roots []int) (l []int, e api.Errno) {
	if e := refusal(m, rows, roots); e != api.OK {
		return nil, e
	}
	b := builder{rows, map[int]kept{}}
	// Whether there is room shows before the first handle is made.
	if e := m.Look(func(x *dd.Ctx) { b.build(x, roots...) }); e != api.OK {
		return nil, e
	}
	for _, root := range roots {
		h, e := m.Do(func(x *dd.Ctx) edge.Edge { return b.build(x, root)[0] })
		if e != api.OK { // an event has brought about an order for which there is no room
			m.Drop(l...)
			return nil, e
		}
		l = append(l, h)
		b.handles[edge.Edge(root).Node()] = kept{h, edge.Edge(root).Neg()}
	}
	return l, api.OK
}

// refusal returns why rows and roots can't be loaded, if they can't whatever the room is.
func refusal(m *dd.Man, rows []api.Row, roots []int) api.Errno {
	if e := given.Flaw(m, nil, nil); e != api.OK {
		return e
	}
	if !valid(rows, roots) {
		return api.ErrForm
	}
	vars := make([]int, 0, len(rows))
	for _, row := range rows {
		vars = append(vars, row.Var)
	}
	return given.Flaw(m, nil, vars)
}

// builder makes functions of a manager from rows.
type builder struct {
	rows    []api.Row
	handles map[int]kept // of the functions of roots, by number of the row's node
}

// kept is a handle of a function or, if not is true, of its complement.
type kept struct {
	handle int
	not    bool
}

// build returns the edges of the functions of the roots.
func (b builder) build(x *dd.Ctx, roots ...int) []edge.Edge {
	done := map[int]edge.Edge{0: edge.One} // by number of the row's node
	var function func(f edge.Edge) edge.Edge
	function = func(f edge.Edge) edge.Edge {
		n := f.Node()
		r, found := done[n]
		if k, handled := b.handles[n]; handled && !found {
			r, found = x.Edge(k.handle).Flip(k.not), true
		}
		if !found {
			row := b.rows[n-1]
			lo, hi := function(edge.Edge(row.Lo)), function(edge.Edge(row.Hi))
			r = x.Ite(x.Mk(row.Var, edge.Zero, edge.One), hi, lo)
			done[n] = r
		}
		return r.Flip(f.Neg())
	}
	edges := make([]edge.Edge, 0, len(roots))
	for _, root := range roots {
		edges = append(edges, function(edge.Edge(root)))
	}
	return edges
}
