package trees

import (
	"slices"

	"voussoir/api"
	"voussoir/forms"
	"voussoir/terms"
)

// mostDetached is the number of trees, of states on paths and of nodes of formulas and terms that an answer has in memory of its own at least, if it has as many. What is greater may share the rest: a formula is to be explained in the same state again and again, so that a tree may be far greater than the memory that it takes.
const mostDetached = 1 << 20

// detached returns t in memory of its own, as far as the number that is left reaches.
func detached(t api.Tree, left *int) api.Tree {
	*left -= 1 + len(t.Path) + weight(t.F)
	if *left < 0 {
		return t
	}
	t.State = slices.Clone(t.State)
	t.F = forms.Push(t.F, false) // the same formula
	t.Path = slices.Clone(t.Path)
	for i, s := range t.Path {
		t.Path[i] = slices.Clone(s)
	}
	t.Kids = slices.Clone(t.Kids)
	for i, kid := range t.Kids {
		t.Kids[i] = detached(kid, left)
	}
	return t
}

// weight returns the number of nodes of a formula and of its terms.
func weight(f api.Form) int {
	n := 1 + terms.Size(f.E)
	for _, kid := range f.Kids {
		n += weight(kid)
	}
	return n
}
