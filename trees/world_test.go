package trees_test

import (
	"fmt"
	"math/rand"
	"slices"
	"testing"

	"voussoir/api"
	"voussoir/atlas"
	"voussoir/forms"
	"voussoir/oracle"
	"voussoir/paths"
	"voussoir/rel"
	"voussoir/sample"
	"voussoir/trees"
)

// world is a world in which it can be told by enumeration what is wanted.
type world struct {
	atlas.World
	known map[string][]bool // the states in which formulas hold
	met   map[string]int    // how many trees of each kind there were
	fair  []bool            // the states in which fair paths start
}

// of returns the world for a world of sets.
func of(w atlas.World) world {
	return world{w, map[string][]bool{}, map[string]int{}, oracle.Fair(w.Graph, slices.Repeat([]bool{true}, len(w.Graph.States)))}
}

// ofText returns the world of the model with that text.
func ofText(t *testing.T, s string) world {
	t.Helper()
	return of(atlas.Of(t, rand.New(rand.NewSource(1)), s))
}

// not returns the negation of a formula.
func not(f api.Form) api.Form {
	return api.Form{Op: api.FNot, Kids: []api.Form{f}}
}

// sat reports for each state whether f holds there.
func (w world) sat(f api.Form) []bool {
	w.T.Helper()
	text := fmt.Sprint(f)
	if l, known := w.known[text]; known {
		return l
	}
	l, e := oracle.Sat(w.Graph, w.Rel.Module(), f)
	if e != api.OK {
		w.T.Fatal(f, e)
	}
	w.known[text] = l
	return l
}

// mostStates is the number of states of a model in which formulas are explained.
const mostStates = 8

// explained checks the trees for f and for its negation in some states.
func (w world) explained(f api.Form) {
	w.T.Helper()
	text := fmt.Sprint(f)
	owned, yes := w.M.Handles(), w.sat(f)
	for range min(mostStates, len(w.Graph.States)) {
		i := w.R.Intn(len(w.Graph.States))
		s := w.Graph.States[i]
		want, call, other := f, trees.Explain, trees.Counter
		if !yes[i] {
			want, call, other = not(f), trees.Counter, trees.Explain
		}
		w.Disturb()
		t, e := call(w.Rel, f, s)
		if e != api.OK {
			w.T.Fatal(want, s, e, w.Rel.Module())
		}
		w.right(want, s, t)
		w.Disturb()
		if t, e := other(w.Rel, f, s); e != api.ErrTree || !zero(t) {
			w.T.Fatal(want, s, t, e, w.Rel.Module())
		}
	}
	if w.M.Handles() != owned || fmt.Sprint(f) != text {
		w.T.Fatal(w.M.Handles(), owned)
	}
}

// zero reports whether t is the zero value.
func zero(t api.Tree) bool {
	return t.Kind == 0 && len(t.State) == 0 && t.F.Op == 0 && t.F.E.Op == 0 && len(t.F.Kids) == 0 && len(t.Path) == 0 && t.Loop == 0 && t.At == 0 && len(t.Kids) == 0
}

// right checks that t is a tree for f in the state s.
func (w world) right(f api.Form, s []int, t api.Tree) {
	w.T.Helper()
	claims, e := paths.Check(w.Rel.Module(), f, s, t)
	if e != api.OK || trees.Size(t) != size(t) {
		w.T.Fatal(f, s, t, e, w.Rel.Module())
	}
	for _, c := range claims {
		if !w.sat(c.F)[w.Graph.Find(c.State)] {
			w.T.Fatal(f, s, t, c, w.Rel.Module())
		}
	}
	w.chosen(t)
}

// size returns the number of nodes of a tree.
func size(t api.Tree) int {
	n := 0
	for waiting := []api.Tree{t}; len(waiting) > 0; n++ {
		t, waiting = waiting[0], append(waiting[1:], waiting[0].Kids...)
	}
	return n
}

// chosen checks what Check takes on trust: that all that is told is true, and what is to be chosen among what is true.
func (w world) chosen(t api.Tree) {
	w.T.Helper()
	i := w.Graph.Find(t.State)
	about := []any{t, w.Rel.Module()}
	if i < 0 || !w.sat(t.F)[i] {
		w.T.Fatal(about...)
	}
	w.met[kind(t)]++
	switch t.F.Op {
	case api.FOr:
		if w.sat(t.F.Kids[0])[i] != (t.At == 0) {
			w.T.Fatal(about...)
		}
	case api.FEF, api.FEU:
		if t.At != w.distance(t.F, i) {
			w.T.Fatal(about...)
		}
	}
	for k, kid := range t.Kids {
		if k < 3 && len(w.Rel.Module().Vars) > 0 && w.R.Intn(4) == 0 { // each of them is a tree by itself
			if _, e := paths.Check(w.Rel.Module(), kid.F, kid.State, kid); e != api.OK {
				w.T.Fatal(about...)
			}
		}
		w.chosen(kid)
	}
}

// kind tells trees apart that are built in different ways.
func kind(t api.Tree) string {
	switch {
	case t.Kind != api.KPath:
		return fmt.Sprint(t.Kind)
	case t.F.Op == api.FNot && t.At < 0:
		return "never"
	case t.F.Op == api.FNot && t.At > 0:
		return "refuted later"
	case t.F.Op == api.FNot:
		return "refuted at once"
	case t.At > 1:
		return fmt.Sprint("far ", t.F.Op)
	}
	return fmt.Sprint("near ", t.F.Op)
}

// distance returns the least number of transitions of a fair path from a state at the end of which the last operand of an FEF or an FEU holds. There is one.
func (w world) distance(f api.Form, i int) (n int) {
	w.T.Helper()
	last := w.sat(f.Kids[len(f.Kids)-1])
	met := map[int]bool{}
	for ring := []int{i}; ; n++ {
		var next []int
		for _, k := range ring {
			if last[k] && w.fair[k] {
				return n
			}
			if f.Op == api.FEF || w.sat(f.Kids[0])[k] {
				next = append(next, w.Graph.Next[k]...)
			}
		}
		next = slices.DeleteFunc(next, func(k int) bool { return met[k] })
		if len(next) == 0 {
			w.T.Fatal(f, i, w.Rel.Module())
		}
		for _, k := range next {
			met[k] = true
		}
		slices.Sort(next)
		ring = slices.Compact(next)
	}
}

// gives checks an answer about a formula.
func gives(t *testing.T, w world, s string, from []int, call func(r *rel.Rel, f api.Form, s []int) (api.Tree, api.Errno), want api.Tree) {
	t.Helper()
	if got, e := call(w.Rel, sample.Formula(t, s), from); fmt.Sprint(got) != fmt.Sprint(want) || e != api.OK {
		t.Errorf("%s: %v, %d; want %v", s, got, e, want)
	}
}

// pushed returns what Push makes of the formula with that text.
func pushed(t *testing.T, s string) api.Form {
	t.Helper()
	return forms.Push(sample.Formula(t, s), false)
}
