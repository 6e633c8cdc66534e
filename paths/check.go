package paths

import (
	"slices"

	"voussoir/api"
	"voussoir/forms"
)

// Requirements on a tree, in the order in which they are checked.
const (
	suits  = iota // it is of the right kind, for the state and the formula in question
	leads         // its path is a fair one from the state
	fits          // its other fields are those that the kind has
	proves        // its term is true
	requirements
)

// goal is what a tree is to explain: that a formula holds in a state.
type goal struct {
	f api.Form
	s []int
}

// judge checks trees.
type judge struct {
	model
	claims []api.Claim // of the trees so far
}

// check returns what is wrong about t or about the trees in it. The formula of g is one that Push returns.
func (j *judge) check(t api.Tree, g goal) api.Errno {
	kids, right := goals(t, g.f)
	right = right && len(kids) == len(t.Kids)
	for requirement := range requirements {
		if j.meets(requirement, t, g, right) {
			continue
		}
		if requirement == leads {
			return api.ErrPath
		}
		return api.ErrTree
	}
	if t.Kind == api.KTold {
		j.claim(g)
	}
	for i, kid := range t.Kids {
		if e := j.check(kid, kids[i]); e != api.OK {
			return e
		}
	}
	return api.OK
}

// meets reports whether t, which meets the requirements before, meets this one, too; right tells whether At and the number of Kids are right.
func (j *judge) meets(requirement int, t api.Tree, g goal, right bool) bool {
	switch requirement {
	case suits:
		return t.Kind == kind(g.f) && slices.Equal(t.State, g.s) && forms.Same(t.F, g.f)
	case leads:
		return t.Kind != api.KPath || j.lasso(t.Path, t.Loop) && slices.Equal(t.Path[0], t.State)
	case fits:
		return right && (t.Kind == api.KPath || len(t.Path) == 0 && t.Loop == 0)
	}
	return t.Kind != api.KPlain || j.evident(t.F, t.State)
}

// claim adds the claim that a goal is true, if it is a new one.
func (j *judge) claim(g goal) {
	same := func(c api.Claim) bool { return slices.Equal(c.State, g.s) && forms.Same(c.F, g.f) }
	if !slices.ContainsFunc(j.claims, same) {
		// Pushed once more the formula is the same, but in memory of its own.
		j.claims = append(j.claims, api.Claim{State: slices.Clone(g.s), F: forms.Push(g.f, false)})
	}
}

// evident reports whether the term of an FTerm is true in a state.
func (m model) evident(f api.Form, s []int) bool {
	yes, ok := m.truth(f, s)
	if ok || f.E.Op != api.TNot || len(f.E.Kids) != 1 {
		return yes
	}
	// The negation may be one that Push has added to a term that was as deep as terms can be.
	no, ok := m.truth(api.Form{Op: api.FTerm, E: f.E.Kids[0]}, s)
	return ok && !no
}

// kind returns the kind of the trees for a formula.
func kind(f api.Form) int {
	switch f.Op {
	case api.FTerm:
		return api.KPlain
	case api.FAnd:
		return api.KBoth
	case api.FOr:
		return api.KOne
	case api.FAX, api.FAF, api.FAG, api.FAU:
		return api.KTold
	}
	if f.Op == api.FNot && f.Kids[0].Op == api.FEU {
		return api.KTold
	}
	return api.KPath
}

// goals returns what the Kids of a tree for f are to explain, and whether At is right.
func goals(t api.Tree, f api.Form) (l []goal, right bool) {
	onPath := 0 <= t.At && t.At < len(t.Path)
	switch f.Op {
	case api.FAnd:
		return []goal{{f.Kids[0], t.State}, {f.Kids[1], t.State}}, t.At == 0
	case api.FOr:
		if t.At != 0 && t.At != 1 {
			return nil, false
		}
		return []goal{{f.Kids[t.At], t.State}}, true
	case api.FEG:
		return along(f.Kids[0], t.Path), t.At == 0
	case api.FEX, api.FEF:
		if !onPath || f.Op == api.FEX && t.At != 1 {
			return nil, false
		}
		return []goal{{f.Kids[0], t.Path[t.At]}}, true
	case api.FEU:
		if !onPath {
			return nil, false
		}
		return append(along(f.Kids[0], t.Path[:t.At]), goal{f.Kids[1], t.Path[t.At]}), true
	case api.FNot:
		return refutation(t, f.Kids[0])
	}
	return nil, t.At == 0
}

// along returns the goals that f holds in each of the states.
func along(f api.Form, states [][]int) (l []goal) {
	for _, s := range states {
		l = append(l, goal{f, s})
	}
	return l
}

// refutation is goals for the negation of f, which is an FAU or an FEU.
func refutation(t api.Tree, f api.Form) (l []goal, right bool) {
	if f.Op == api.FEU {
		return nil, t.At == 0
	}
	first, second := forms.Push(f.Kids[0], true), forms.Push(f.Kids[1], true)
	switch {
	case t.At == -1:
		return along(second, t.Path), true
	case t.At < 0 || t.At >= len(t.Path):
		return nil, false
	}
	return append(along(second, t.Path[:t.At+1]), goal{first, t.Path[t.At]}), true
}
