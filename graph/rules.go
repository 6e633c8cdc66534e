package graph

import "voussoir/api"

// rules are the declarations of a model without definitions.
type rules struct {
	init, invar, trans, fair []value
	next                     []value // by variable; nil without a declaration
}

// newRules returns the rules of a valid model.
func newRules(mod api.Module) rules {
	places := map[string]int{}
	for i, v := range mod.Vars {
		places[v.Name] = i
	}
	all := func(l []api.Term) (values []value) {
		for _, t := range l {
			values = append(values, valueOf(t, places))
		}
		return values
	}
	next := make([]value, len(mod.Vars))
	for _, d := range mod.Next {
		next[places[d.Name]] = valueOf(d.E, places)
	}
	return rules{all(mod.Init), all(mod.Invar), all(mod.Trans), all(mod.Fair), next}
}

// hold reports whether all Boolean terms are true.
func hold(l []value, s, n []int) bool {
	for _, t := range l {
		if t(s, n) == 0 {
			return false
		}
	}
	return true
}

// successors returns the indices of those states to which there is a transition from s.
func (r rules) successors(s []int, states [][]int) (l []int) {
	values := make([]int, len(s))
	for v, t := range r.next {
		if t != nil {
			values[v] = t(s, nil)
		}
	}
	for i, n := range states {
		if r.agree(n, values) && hold(r.trans, s, n) {
			l = append(l, i)
		}
	}
	return l
}

// agree reports whether each variable that has a next declaration has its value in n.
func (r rules) agree(n, values []int) bool {
	for v, t := range r.next {
		if t != nil && n[v] != values[v] {
			return false
		}
	}
	return true
}
