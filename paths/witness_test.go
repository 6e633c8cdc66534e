package paths_test

import (
	"slices"
	"testing"

	"voussoir/api"
	"voussoir/defs"
	"voussoir/forms"
	"voussoir/graph"
	"voussoir/oracle"
)

// witness makes witness trees for a model from the lassos of its graph.
type witness struct {
	t *testing.T
	m api.Module
	g graph.Graph
}

// sat returns the states in which a formula holds.
func (w witness) sat(f api.Form) []bool {
	w.t.Helper()
	f, e := defs.Form(f, w.m.Defs)
	if e != api.OK {
		w.t.Fatal(f, e)
	}
	l, e := oracle.Sat(w.g, w.m, f)
	if e != api.OK {
		w.t.Fatal(f, e)
	}
	return l
}

// all returns the set of all states.
func (w witness) all() []bool {
	return slices.Repeat([]bool{true}, len(w.g.States))
}

// both returns the intersection of two sets.
func both(p, q []bool) []bool {
	l := slices.Clone(p)
	for i := range l {
		l[i] = l[i] && q[i]
	}
	return l
}

// way returns a shortest path of one state or more from i to a state of q, all states before which are in p. There is one.
func (w witness) way(i int, p, q []bool) []int {
	w.t.Helper()
	before := map[int]int{i: -1}
	reached := []int{i}
	for at := 0; at < len(reached); at++ {
		k := reached[at]
		if q[k] {
			var path []int
			for k >= 0 {
				path = append(path, k)
				k = before[k]
			}
			slices.Reverse(path)
			return path
		}
		if !p[k] {
			continue
		}
		for _, n := range w.g.Next[k] {
			if _, met := before[n]; !met {
				before[n] = k
				reached = append(reached, n)
			}
		}
	}
	w.t.Fatal("there is no way")
	return nil
}

// lasso returns a fair lasso from i through in. There is one.
func (w witness) lasso(i int, in []bool) (path []int, loop int) {
	w.t.Helper()
	around := make([]bool, len(in))
	for _, part := range w.g.Parts(in) {
		inPart := make([]bool, len(in))
		for _, k := range part {
			inPart[k] = true
		}
		fair := oracle.Fair(w.g, inPart)
		for _, k := range part {
			around[k] = fair[k]
		}
	}
	path = w.way(i, in, around)
	loop = len(path) - 1
	start := path[loop]
	var part []bool
	for _, l := range w.g.Parts(around) {
		if slices.Contains(l, start) {
			part = make([]bool, len(in))
			for _, k := range l {
				part[k] = true
			}
		}
	}
	for c := range w.g.Fair[start] {
		met := slices.Clone(part)
		for k := range met {
			met[k] = met[k] && w.g.Fair[k][c]
		}
		path = append(path, w.way(path[len(path)-1], part, met)[1:]...)
	}
	// From the last state at least one step on, until there is one back to the start.
	for last := path[len(path)-1]; !slices.Contains(w.g.Next[last], start); last = path[len(path)-1] {
		closing := make([]bool, len(in))
		for k := range closing {
			closing[k] = part[k] && slices.Contains(w.g.Next[k], start)
		}
		path = append(path, w.way(last, part, closing)[1:]...)
	}
	return path, loop
}

// states returns the states with these indices.
func (w witness) states(path []int) (l [][]int) {
	for _, i := range path {
		l = append(l, w.g.States[i])
	}
	return l
}

// tree returns a witness tree for f, a result of Push that holds in state i.
func (w witness) tree(f api.Form, i int) api.Tree {
	w.t.Helper()
	t := api.Tree{State: w.g.States[i], F: f}
	switch f.Op {
	case api.FTerm:
		t.Kind = api.KPlain
	case api.FAnd:
		t.Kind = api.KBoth
		t.Kids = []api.Tree{w.tree(f.Kids[0], i), w.tree(f.Kids[1], i)}
	case api.FOr:
		t.Kind = api.KOne
		if !w.sat(f.Kids[0])[i] {
			t.At = 1
		}
		t.Kids = []api.Tree{w.tree(f.Kids[t.At], i)}
	case api.FAX, api.FAF, api.FAG, api.FAU:
		t.Kind = api.KTold
	case api.FNot:
		if f.Kids[0].Op == api.FEU {
			t.Kind = api.KTold
			break
		}
		w.refutation(&t, f.Kids[0], i)
	default:
		w.path(&t, f, i)
	}
	return t
}

// path completes a tree for an existential formula.
func (w witness) path(t *api.Tree, f api.Form, i int) {
	w.t.Helper()
	t.Kind = api.KPath
	fair := oracle.Fair(w.g, w.all())
	p := w.sat(f.Kids[0])
	last := both(w.sat(f.Kids[len(f.Kids)-1]), fair)
	var head []int
	switch f.Op {
	case api.FEG:
		path, loop := w.lasso(i, p)
		t.Path, t.Loop = w.states(path), loop
		t.Kids = w.trees(f.Kids[0], path)
		return
	case api.FEX:
		k := slices.IndexFunc(w.g.Next[i], func(k int) bool { return last[k] })
		head = []int{i, w.g.Next[i][k]}
	case api.FEF:
		head = w.way(i, w.all(), last)
	case api.FEU:
		head = w.way(i, p, last)
		t.Kids = w.trees(f.Kids[0], head[:len(head)-1])
	}
	t.At = len(head) - 1
	t.Kids = append(t.Kids, w.tree(f.Kids[len(f.Kids)-1], head[t.At]))
	w.extend(t, head)
}

// refutation completes a tree for the negation of f, an FAU.
func (w witness) refutation(t *api.Tree, f api.Form, i int) {
	w.t.Helper()
	t.Kind = api.KPath
	not, not2 := forms.Push(f.Kids[0], true), forms.Push(f.Kids[1], true)
	in := w.sat(not2)
	if oracle.EG(w.g, in)[i] {
		path, loop := w.lasso(i, in)
		t.Path, t.Loop, t.At = w.states(path), loop, -1
		t.Kids = w.trees(not2, path)
		return
	}
	head := w.way(i, in, both(in, both(w.sat(not), oracle.Fair(w.g, w.all()))))
	t.At = len(head) - 1
	t.Kids = append(w.trees(not2, head), w.tree(not, head[t.At]))
	w.extend(t, head)
}

// trees returns trees for f in the states with these indices.
func (w witness) trees(f api.Form, path []int) (l []api.Tree) {
	w.t.Helper()
	for _, i := range path {
		l = append(l, w.tree(f, i))
	}
	return l
}

// extend gives a tree a lasso that begins with head.
func (w witness) extend(t *api.Tree, head []int) {
	w.t.Helper()
	last := len(head) - 1
	path, loop := w.lasso(head[last], w.all())
	t.Path = w.states(slices.Concat(head[:last], path))
	t.Loop = last + loop
}

// claims returns the formulas that a tree claims, in order and without repetition.
func claims(t api.Tree) (l []api.Claim) {
	add := func(c api.Claim) {
		same := func(other api.Claim) bool { return slices.Equal(c.State, other.State) && forms.Same(c.F, other.F) }
		if !slices.ContainsFunc(l, same) {
			l = append(l, c)
		}
	}
	if t.Kind == api.KTold {
		add(api.Claim{State: t.State, F: t.F})
	}
	for _, kid := range t.Kids {
		for _, c := range claims(kid) {
			add(c)
		}
	}
	return l
}
