package carry

import (
	"cmp"
	"slices"

	"voussoir/api"
	"voussoir/dd"
	"voussoir/edge"
	"voussoir/shelf"
)

// place returns a new handle of m, of the only function that was put on the shelf, with to[v] in place of each of its variables v.
func place(s *shelf.Shelf, m *dd.Man, f edge.Edge, to map[int]int) (h int, e api.Errno) {
	vars := targets(to)
	// Where there are more nodes than assignments, what the nodes turn into could be more than m has room for, though the result is small.
	few := len(vars) < api.MaxVars && 1<<len(vars) < uint64(s.Len())
	return m.Do(func(x *dd.Ctx) edge.Edge {
		if few {
			return tabulate(s, x, f, to, vars)
		}
		return compose(s, x, f, to)
	})
}

// compose makes the nodes of f anew, one after the other, and returns the new edge.
func compose(s *shelf.Shelf, x *dd.Ctx, f edge.Edge, to map[int]int) edge.Edge {
	made := make([]edge.Edge, s.Len())
	made[0] = edge.One
	anew := func(f edge.Edge) edge.Edge { return made[f.Node()].Flip(f.Neg()) }
	for i := 1; i < s.Len(); i++ {
		n := s.At(i)
		made[i] = choice(x, to[n.Var], anew(n.Lo), anew(n.Hi))
	}
	return anew(f)
}

// choice returns the edge of the function that is hi where v is true and lo where v is false, wherever v is in the order.
func choice(x *dd.Ctx, v int, lo, hi edge.Edge) edge.Edge {
	top := x.Top(lo, hi)
	if top < 0 || x.Level(v) < x.Level(top) {
		return x.Mk(v, lo, hi) // without a node for v alone
	}
	return x.Ite(x.Mk(v, edge.Zero, edge.One), hi, lo)
}

// tabulate makes the new edge from the values of f at all assignments to vars, without any node that is not the result's.
func tabulate(s *shelf.Shelf, x *dd.Ctx, f edge.Edge, to map[int]int, vars []int) edge.Edge {
	downwards := slices.SortedFunc(slices.Values(vars), func(v, w int) int { return cmp.Compare(x.Level(v), x.Level(w)) })
	values := make(map[int]bool, len(vars))
	var build func(rest []int) edge.Edge
	build = func(rest []int) edge.Edge {
		if len(rest) == 0 {
			return value(s, f, func(v int) bool { return values[to[v]] })
		}
		v := rest[0]
		values[v] = false
		lo := build(rest[1:])
		values[v] = true
		hi := build(rest[1:])
		return x.Mk(v, lo, hi)
	}
	return build(downwards)
}

// value returns the constant that f is where each variable has its value.
func value(s *shelf.Shelf, f edge.Edge, of func(v int) bool) edge.Edge {
	for !f.Const() {
		n := s.At(f.Node())
		way := n.Lo
		if of(n.Var) {
			way = n.Hi
		}
		f = way.Flip(f.Neg())
	}
	return f
}

// equal reports whether f, whose variables have these levels, and g, whose variables may be in any order, are the same function. Each node of g has to stand for one function that f becomes where the variables above the node are fixed, whatever the way to the node is.
func equal(s *shelf.Shelf, f edge.Edge, levels []int, g edge.Edge) bool {
	fix := s.Fixer(levels)
	parts := map[edge.Edge]edge.Edge{edge.One: edge.One} // what f has to be, by nodes of g
	var match func(f, g edge.Edge) bool
	match = func(f, g edge.Edge) bool {
		if g.Neg() {
			return match(f.Not(), g.Not())
		}
		part, found := parts[g]
		if found {
			return part == f
		}
		parts[g] = f
		n := s.At(g.Node())
		return match(fix(f, n.Var, false), n.Lo) && match(fix(f, n.Var, true), n.Hi)
	}
	return match(f, g)
}
