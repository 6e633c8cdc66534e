// Package shelf keeps functions outside of any manager, so that what is done with them does not hang on a manager's room.
package shelf

import (
	"voussoir/api"
	"voussoir/dd"
	"voussoir/edge"
)

// Node is a node of a function: its variable, and its edges on a shelf.
type Node struct {
	Var    int
	Lo, Hi edge.Edge
}

// Shelf keeps functions as nodes. No two of its nodes are the same, and each stands behind those to which it leads.
type Shelf struct {
	nodes []Node // the first one is in the place of the constant
	at    map[Node]int
}

// New returns an empty shelf.
func New() *Shelf {
	return &Shelf{nodes: make([]Node, 1), at: map[Node]int{}}
}

// Len returns the number of nodes, the one in the place of the constant included.
func (s *Shelf) Len() int {
	return len(s.nodes)
}

// At returns the node with that number, which is that of the edges to it.
func (s *Shelf) At(i int) Node {
	return s.nodes[i]
}

// Put returns the edge of the function that is hi where v is true and lo where v is false.
func (s *Shelf) Put(v int, lo, hi edge.Edge) edge.Edge {
	if lo == hi {
		return lo
	}
	lo, hi, not := edge.Norm(lo, hi)
	n := Node{v, lo, hi}
	i, found := s.at[n]
	if !found {
		i = len(s.nodes)
		s.nodes = append(s.nodes, n)
		s.at[n] = i
	}
	return edge.Of(i, not)
}

// Take puts a function of m on the shelf.
func (s *Shelf) Take(m *dd.Man, f int) (r edge.Edge, e api.Errno) {
	e = m.Look(func(x *dd.Ctx) {
		taken := map[edge.Edge]edge.Edge{edge.One: edge.One}
		var visit func(f edge.Edge) edge.Edge
		visit = func(f edge.Edge) edge.Edge {
			if f.Neg() {
				return visit(f.Not()).Not()
			}
			r, found := taken[f]
			if !found {
				v := x.Top(f)
				lo, hi := x.Split(f, v)
				r = s.Put(v, visit(lo), visit(hi))
				taken[f] = r
			}
			return r
		}
		r = visit(x.Edge(f))
	})
	return r, e
}

// fixing is a node of a function with a variable that is fixed.
type fixing struct {
	f   edge.Edge
	v   int
	yes bool
}

// Fixer returns a function that fixes a variable of functions on the shelf whose variables have these levels.
func (s *Shelf) Fixer(levels []int) func(f edge.Edge, v int, yes bool) edge.Edge {
	done := map[fixing]edge.Edge{}
	var fix func(f edge.Edge, v int, yes bool) edge.Edge
	fix = func(f edge.Edge, v int, yes bool) edge.Edge {
		n := s.nodes[f.Node()]
		switch {
		case f.Const() || v >= len(levels) || levels[n.Var] > levels[v]:
			return f
		case f.Neg():
			return fix(f.Not(), v, yes).Not()
		case n.Var == v && yes:
			return n.Hi
		case n.Var == v:
			return n.Lo
		}
		key := fixing{f, v, yes}
		r, found := done[key]
		if !found {
			r = s.Put(n.Var, fix(n.Lo, v, yes), fix(n.Hi, v, yes))
			done[key] = r
		}
		return r
	}
	return fix
}
