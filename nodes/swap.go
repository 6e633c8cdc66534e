package nodes

import (
	"voussoir/api"
	"voussoir/edge"
)

// pair holds the low and the high edge of a node.
type pair = [2]edge.Edge

// turn is a node of the upper of two levels with an edge to the lower one. When the levels are exchanged it keeps its number, but takes the other variable; lo and hi are the edges of its new low and high nodes.
type turn struct {
	node   api.Node
	lo, hi pair
}

// Swap removes all dead nodes and exchanges the variables of level and level + 1.
func (s *Store) Swap(level int) api.Errno {
	if s == nil {
		return api.ErrNone
	}
	if level < 0 || level >= s.many()-1 {
		return api.ErrRange
	}
	s.Collect()
	upper, lower := s.adjacent(level)
	l := s.turns(upper, lower)
	// The nodes that die in the exchange stay: edges to them keep their values, too.
	if s.Len()+s.missing(upper, l) > s.Room() {
		return api.ErrRoom
	}
	s.exchange(level)
	for _, t := range l {
		s.rewrite(t, lower)
	}
	return api.OK
}

// turns returns what happens to the nodes of variable upper that depend on variable lower, which is at the next level.
func (s *Store) turns(upper, lower int) []turn {
	var l []turn
	for _, n := range s.nodesOf(upper) {
		low0, low1 := s.split(edge.Edge(n.Lo), lower)
		high0, high1 := s.split(edge.Edge(n.Hi), lower)
		if low0 != low1 || high0 != high1 {
			l = append(l, turn{n, pair{low0, high0}, pair{low1, high1}})
		}
	}
	return l
}

// split returns what f, whose node is at the level of v or below, equals where v is false and where it is true.
func (s *Store) split(f edge.Edge, v int) (lo, hi edge.Edge) {
	if top, lo, hi, ok := s.At(f); ok && top == v {
		return lo, hi
	}
	return f, f
}

// missing returns how many nodes of variable v have to be made for l.
func (s *Store) missing(v int, l []turn) int {
	fresh := map[pair]bool{}
	for _, t := range l {
		for _, p := range [2]pair{t.lo, t.hi} {
			lo, hi, _ := edge.Norm(p[0], p[1])
			_, found := s.tables[v].Find(lo, hi)
			if lo != hi && !found {
				fresh[pair{lo, hi}] = true
			}
		}
	}
	return len(fresh)
}

// rewrite makes the node of t one of variable v. There is room for what it needs.
func (s *Store) rewrite(t turn, v int) {
	old := t.node
	lo, _ := s.unique(old.Var, t.lo[0], t.lo[1])
	hi, _ := s.unique(old.Var, t.hi[0], t.hi[1])
	s.gain(lo)
	s.gain(hi)
	s.lose(edge.Edge(old.Lo))
	s.lose(edge.Edge(old.Hi))
	s.tables[old.Var].Cut(edge.Edge(old.Lo), edge.Edge(old.Hi))
	s.tables[v].Put(lo, hi, old.ID)
	s.pool.Set(api.Node{ID: old.ID, Var: v, Lo: int(lo), Hi: int(hi), Refs: old.Refs})
}
