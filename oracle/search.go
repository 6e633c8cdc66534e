package oracle

import (
	"slices"

	"voussoir/graph"
)

// search looks for paths in a graph. Its sets have one boolean for each state.
type search struct {
	graph.Graph
	prev [][]int // the predecessors of each state
}

func newSearch(g graph.Graph) search {
	return search{g, g.Prev()}
}

// whole returns the set that begins with l, as far as there are states.
func (s search) whole(l []bool) []bool {
	set := make([]bool, len(s.States))
	copy(set, l)
	return set
}

// toward reports for each state whether it is in q, or is in p and leads to a state of q by a path through p.
func (s search) toward(p, q []bool) []bool {
	found := slices.Clone(q)
	var waiting []int
	for i, yes := range q {
		if yes {
			waiting = append(waiting, i)
		}
	}
	for len(waiting) > 0 {
		last := len(waiting) - 1
		i := waiting[last]
		waiting = waiting[:last]
		for _, k := range s.prev[i] {
			if p[k] && !found[k] {
				found[k] = true
				waiting = append(waiting, k)
			}
		}
	}
	return found
}

// fairWithin reports for each state whether a fair path starts there whose states are all in in. Such a path ends up in one component of in, through all of which one can go around then.
func (s search) fairWithin(in []bool) []bool {
	around := make([]bool, len(s.States))
parts:
	for _, part := range s.Parts(in) {
		if !s.turns(part) {
			continue
		}
		for k := range s.Fair[part[0]] {
			met := func(i int) bool { return s.Fair[i][k] }
			if !slices.ContainsFunc(part, met) {
				continue parts
			}
		}
		for _, i := range part {
			around[i] = true
		}
	}
	return s.toward(in, around)
}

// turns reports whether there is a transition within a component.
func (s search) turns(part []int) bool {
	return len(part) > 1 || slices.Contains(s.Next[part[0]], part[0])
}
