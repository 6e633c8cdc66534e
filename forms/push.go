package forms

import (
	"slices"

	"voussoir/api"
)

// mostDetached is the number of nodes that an answer has in memory of its own at least, if it has as many. What is greater may share the rest with the argument: where Kids share memory, a copy may be far greater than its original.
const mostDetached = api.MaxSize * api.MaxDeep

// Push returns the formula that holds where f holds or, if not is true, where it does not, with negations moved inwards. It returns f if f is not valid.
func Push(f api.Form, not bool) api.Form {
	if Check(f) == api.OK {
		f = push(f, not)
	}
	left := mostDetached
	return detached(f, &left)
}

// push is Push for a valid formula.
func push(f api.Form, not bool) api.Form {
	switch f.Op {
	case api.FTerm:
		if not {
			return api.Form{Op: api.FTerm, E: api.Term{Op: api.TNot, Kids: []api.Term{f.E}}}
		}
		return f
	case api.FNot:
		return push(f.Kids[0], !not)
	case api.FImp:
		return node(operator(api.FOr, not), push(f.Kids[0], !not), push(f.Kids[1], not))
	case api.FEU, api.FAU:
		g := node(f.Op, push(f.Kids[0], false), push(f.Kids[1], false))
		if not {
			return node(api.FNot, g)
		}
		return g
	}
	g := node(operator(f.Op, not))
	for _, kid := range f.Kids {
		g.Kids = append(g.Kids, push(kid, not))
	}
	return g
}

func node(op int, kids ...api.Form) api.Form {
	return api.Form{Op: op, Kids: kids}
}

// operator returns the operator itself or, if dual is true, the one that yields the negation when its operands are negated.
func operator(op int, dual bool) int {
	if !dual {
		return op
	}
	switch op {
	case api.FAnd:
		return api.FOr
	case api.FOr:
		return api.FAnd
	case api.FEX:
		return api.FAX
	case api.FEF:
		return api.FAG
	case api.FEG:
		return api.FAF
	case api.FAX:
		return api.FEX
	case api.FAF:
		return api.FEG
	case api.FAG:
		return api.FEF
	}
	return op
}

// detached returns f with Kids and terms in memory of its own, while nodes are left.
func detached(f api.Form, left *int) api.Form {
	f.E = detachedTerm(f.E, left)
	*left -= len(f.Kids)
	if *left < 0 {
		return f
	}
	f.Kids = slices.Clone(f.Kids)
	for i, kid := range f.Kids {
		f.Kids[i] = detached(kid, left)
	}
	return f
}

// detachedTerm returns t with Kids in memory of its own, while nodes are left.
func detachedTerm(t api.Term, left *int) api.Term {
	*left -= len(t.Kids)
	if *left < 0 {
		return t
	}
	t.Kids = slices.Clone(t.Kids)
	for i, kid := range t.Kids {
		t.Kids[i] = detachedTerm(kid, left)
	}
	return t
}
