package oracle

import (
	"voussoir/api"
	"voussoir/graph"
	"voussoir/terms"
)

// checker finds out where formulas hold.
type checker struct {
	search
	all, fair []bool // all states, and those in which a fair path starts
}

func newChecker(g graph.Graph) checker {
	s := newSearch(g)
	all := make([]bool, len(g.States))
	for i := range all {
		all[i] = true
	}
	return checker{s, all, s.fairWithin(all)}
}

// next reports for each state whether it has a successor in p in which a fair path starts.
func (c checker) next(p []bool) []bool {
	found := make([]bool, len(c.States))
states:
	for i, next := range c.Next {
		for _, k := range next {
			if p[k] && c.fair[k] {
				found[i] = true
				continue states
			}
		}
	}
	return found
}

// until reports for each state whether a path through p leads from it to a state of q in which a fair path starts.
func (c checker) until(p, q []bool) []bool {
	return c.toward(p, and(q, c.fair))
}

// sat reports for each state whether f holds there.
func (c checker) sat(vars []api.Var, f api.Form) []bool {
	if f.Op == api.FTerm {
		holds := make([]bool, len(c.States))
		for i, s := range c.States {
			v, _ := terms.Eval(vars, f.E, s, nil)
			holds[i] = v == 1
		}
		return holds
	}
	p := c.sat(vars, f.Kids[0])
	q := p
	if len(f.Kids) > 1 {
		q = c.sat(vars, f.Kids[1])
	}
	return c.operator(f.Op)(p, q)
}

// operator returns what an operator makes of the sets in which its operands hold; if it has one operand only, it doesn't look at q.
func (c checker) operator(op int) func(p, q []bool) []bool {
	switch op {
	case api.FNot:
		return func(p, q []bool) []bool { return not(p) }
	case api.FAnd:
		return and
	case api.FOr:
		return or
	case api.FImp:
		return func(p, q []bool) []bool { return or(not(p), q) }
	case api.FEX:
		return func(p, q []bool) []bool { return c.next(p) }
	case api.FEF:
		return func(p, q []bool) []bool { return c.until(c.all, p) }
	case api.FEG:
		return func(p, q []bool) []bool { return c.fairWithin(p) }
	case api.FEU:
		return c.until
	case api.FAX:
		return func(p, q []bool) []bool { return not(c.next(not(p))) }
	case api.FAF:
		return func(p, q []bool) []bool { return not(c.fairWithin(not(p))) }
	case api.FAG:
		return func(p, q []bool) []bool { return not(c.until(c.all, not(p))) }
	}
	// A path along which p U q does not hold stays outside of q, for ever or up to a state that is outside of p, too.
	return func(p, q []bool) []bool {
		return not(or(c.fairWithin(not(q)), c.until(not(q), not(or(p, q)))))
	}
}

func not(p []bool) []bool {
	return pointwise(p, p, func(a, b bool) bool { return !a })
}

func and(p, q []bool) []bool {
	return pointwise(p, q, func(a, b bool) bool { return a && b })
}

func or(p, q []bool) []bool {
	return pointwise(p, q, func(a, b bool) bool { return a || b })
}

// pointwise returns what op makes of the elements of two sets.
func pointwise(p, q []bool, op func(a, b bool) bool) []bool {
	set := make([]bool, len(p))
	for i := range set {
		set[i] = op(p[i], q[i])
	}
	return set
}
