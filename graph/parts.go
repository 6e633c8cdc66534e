package graph

import (
	"cmp"
	"math"
	"slices"
)

// Parts returns the strongly connected components of the subgraph of those states for which in is true.
func (g Graph) Parts(in []bool) [][]int {
	p := parting{g: g, in: in, rank: make([]int, len(g.States))}
	for i := range g.States {
		if p.takes(i) && p.rank[i] == 0 {
			p.visit(i)
		}
	}
	slices.SortFunc(p.parts, func(a, b []int) int { return cmp.Compare(a[0], b[0]) })
	return p.parts
}

// parting is a search for components, depth first.
type parting struct {
	g     Graph
	in    []bool
	rank  []int // when each state was met first, from 1 on; settled when its component is complete
	met   int   // how many states were met
	open  []int // the states that were met and whose components are not complete, in the order in which they were met
	parts [][]int
}

// settled is above every rank.
const settled = math.MaxInt

// takes reports whether a state belongs to the subgraph.
func (p *parting) takes(i int) bool {
	return i < len(p.in) && p.in[i]
}

// visit completes the components of all that is reachable from state i, except for those that reach back beyond i. It returns the least rank to which i leads within open.
func (p *parting) visit(i int) (least int) {
	first := len(p.open)
	p.met++
	p.rank[i] = p.met
	p.open = append(p.open, i)
	least = p.rank[i]
	for _, k := range p.g.Next[i] {
		switch {
		case !p.takes(k):
		case p.rank[k] == 0:
			least = min(least, p.visit(k))
		default:
			least = min(least, p.rank[k])
		}
	}
	if least == p.rank[i] {
		part := slices.Clone(p.open[first:])
		p.open = p.open[:first]
		for _, k := range part {
			p.rank[k] = settled
		}
		slices.Sort(part)
		p.parts = append(p.parts, part)
	}
	return least
}
