package cof

import (
	"voussoir/dd"
	"voussoir/edge"
	"voussoir/overlap"
)

// squeeze returns a function that is implied by f and implies g, where f implies g. It leaves out each variable that it can when it comes to it.
func squeeze(x *dd.Ctx, f, g edge.Edge) edge.Edge {
	switch {
	case f == edge.Zero || f == g:
		return f
	case g == edge.One:
		return g
	}
	return x.Memo(opSqueeze, f, g, 0, func() edge.Edge {
		v := x.Top(f, g)
		f0, f1 := x.Split(f, v)
		g0, g1 := x.Split(g, v)
		if overlap.Within(x, f0, g1) && overlap.Within(x, f1, g0) {
			return squeeze(x, x.Ite(f0, edge.One, f1), x.Ite(g0, g1, edge.Zero))
		}
		lo, hi := squeeze(x, f0, g0), squeeze(x, f1, g1)
		return x.Mk(v, lo, hi)
	})
}

// smallest returns the first one of the functions that have the fewest nodes.
func smallest(x *dd.Ctx, l ...edge.Edge) edge.Edge {
	var best edge.Edge
	fewest := -1
	for _, f := range l {
		if n := size(x, f); fewest < 0 || n < fewest {
			best, fewest = f, n
		}
	}
	return best
}

// size returns the number of nodes of f.
func size(x *dd.Ctx, f edge.Edge) int {
	met := map[int]bool{}
	var visit func(f edge.Edge)
	visit = func(f edge.Edge) {
		if f.Const() || met[f.Node()] {
			return
		}
		met[f.Node()] = true
		lo, hi := x.Split(f, x.Top(f))
		visit(lo)
		visit(hi)
	}
	visit(f)
	return len(met)
}
