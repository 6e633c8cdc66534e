package carry

import (
	"cmp"
	"slices"

	"voussoir/api"
	"voussoir/dd"
	"voussoir/edge"
)

// node is a node of a function: its variable, and its edges on a shelf.
type node struct {
	v      int
	lo, hi edge.Edge
}

// shelf keeps functions outside of any manager, so that nothing hangs on a manager's room. No two of its nodes are the same, and each stands behind those to which it leads.
type shelf struct {
	nodes []node // the first one is in the place of the constant
	at    map[node]int
}

// newShelf returns an empty shelf.
func newShelf() *shelf {
	return &shelf{nodes: make([]node, 1), at: map[node]int{}}
}

// put returns the edge of the function that is hi where v is true and lo where v is false.
func (s *shelf) put(v int, lo, hi edge.Edge) edge.Edge {
	if lo == hi {
		return lo
	}
	lo, hi, not := edge.Norm(lo, hi)
	n := node{v, lo, hi}
	i, found := s.at[n]
	if !found {
		i = len(s.nodes)
		s.nodes = append(s.nodes, n)
		s.at[n] = i
	}
	return edge.Of(i, not)
}

// take puts a function of m on the shelf.
func (s *shelf) take(m *dd.Man, f int) (r edge.Edge, e api.Errno) {
	e = m.Look(func(x *dd.Ctx) {
		taken := map[edge.Edge]edge.Edge{edge.One: edge.One}
		var visit func(f edge.Edge) edge.Edge
		visit = func(f edge.Edge) edge.Edge {
			if f.Neg() {
				return visit(f.Not()).Not()
			}
			r, found := taken[f]
			if !found {
				v := x.Top(f)
				lo, hi := x.Split(f, v)
				r = s.put(v, visit(lo), visit(hi))
				taken[f] = r
			}
			return r
		}
		r = visit(x.Edge(f))
	})
	return r, e
}

// place returns a new handle of m, of the only function that was put on the shelf, with to[v] in place of each of its variables v.
func (s *shelf) place(m *dd.Man, f edge.Edge, to map[int]int) (h int, e api.Errno) {
	vars := targets(to)
	// Where there are more nodes than assignments, what the nodes turn into could be more than m has room for, though the result is small.
	few := len(vars) < api.MaxVars && 1<<len(vars) < uint64(len(s.nodes))
	return m.Do(func(x *dd.Ctx) edge.Edge {
		if few {
			return s.tabulate(x, f, to, vars)
		}
		return s.compose(x, f, to)
	})
}

// compose makes the nodes of f anew, one after the other, and returns the new edge.
func (s *shelf) compose(x *dd.Ctx, f edge.Edge, to map[int]int) edge.Edge {
	made := make([]edge.Edge, len(s.nodes))
	made[0] = edge.One
	anew := func(f edge.Edge) edge.Edge { return made[f.Node()].Flip(f.Neg()) }
	for i, n := range s.nodes {
		if i > 0 {
			made[i] = choice(x, to[n.v], anew(n.lo), anew(n.hi))
		}
	}
	return anew(f)
}

// choice returns the edge of the function that is hi where v is true and lo where v is false, wherever v is in the order.
func choice(x *dd.Ctx, v int, lo, hi edge.Edge) edge.Edge {
	top := x.Top(lo, hi)
	if top < 0 || x.Level(v) < x.Level(top) {
		return x.Mk(v, lo, hi) // without a node for v alone
	}
	return x.Ite(x.Mk(v, edge.Zero, edge.One), hi, lo)
}

// tabulate makes the new edge from the values of f at all assignments to vars, without any node that is not the result's.
func (s *shelf) tabulate(x *dd.Ctx, f edge.Edge, to map[int]int, vars []int) edge.Edge {
	downwards := slices.SortedFunc(slices.Values(vars), func(v, w int) int { return cmp.Compare(x.Level(v), x.Level(w)) })
	values := make(map[int]bool, len(vars))
	var build func(rest []int) edge.Edge
	build = func(rest []int) edge.Edge {
		if len(rest) == 0 {
			return s.value(f, func(v int) bool { return values[to[v]] })
		}
		v := rest[0]
		values[v] = false
		lo := build(rest[1:])
		values[v] = true
		hi := build(rest[1:])
		return x.Mk(v, lo, hi)
	}
	return build(downwards)
}

// value returns the constant that f is where each variable has its value.
func (s *shelf) value(f edge.Edge, of func(v int) bool) edge.Edge {
	for !f.Const() {
		n := s.nodes[f.Node()]
		way := n.lo
		if of(n.v) {
			way = n.hi
		}
		f = way.Flip(f.Neg())
	}
	return f
}

// fixing is a node of a function with a variable that is fixed.
type fixing struct {
	f   edge.Edge
	v   int
	yes bool
}

// fixer returns a function that fixes a variable of functions on the shelf whose variables have these levels.
func (s *shelf) fixer(levels []int) func(f edge.Edge, v int, yes bool) edge.Edge {
	done := map[fixing]edge.Edge{}
	var fix func(f edge.Edge, v int, yes bool) edge.Edge
	fix = func(f edge.Edge, v int, yes bool) edge.Edge {
		n := s.nodes[f.Node()]
		switch {
		case f.Const() || v >= len(levels) || levels[n.v] > levels[v]:
			return f
		case f.Neg():
			return fix(f.Not(), v, yes).Not()
		case n.v == v && yes:
			return n.hi
		case n.v == v:
			return n.lo
		}
		key := fixing{f, v, yes}
		r, found := done[key]
		if !found {
			r = s.put(n.v, fix(n.lo, v, yes), fix(n.hi, v, yes))
			done[key] = r
		}
		return r
	}
	return fix
}

// same reports whether f, whose variables have these levels, and g, whose variables may be in any order, are the same function. Each node of g has to stand for one function that f becomes where the variables above the node are fixed, whatever the way to the node is.
func (s *shelf) same(f edge.Edge, levels []int, g edge.Edge) bool {
	fix := s.fixer(levels)
	parts := map[edge.Edge]edge.Edge{edge.One: edge.One} // what f has to be, by nodes of g
	var match func(f, g edge.Edge) bool
	match = func(f, g edge.Edge) bool {
		if g.Neg() {
			return match(f.Not(), g.Not())
		}
		part, found := parts[g]
		if found {
			return part == f
		}
		parts[g] = f
		n := s.nodes[g.Node()]
		return match(fix(f, n.v, false), n.lo) && match(fix(f, n.v, true), n.hi)
	}
	return match(f, g)
}
