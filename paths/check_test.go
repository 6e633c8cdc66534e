package paths_test

import (
	"fmt"
	"math"
	"math/rand"
	"slices"
	"testing"

	"voussoir/api"
	"voussoir/forms"
	"voussoir/paths"
	"voussoir/sample"
)

// checked is what a tree is checked with.
type checked struct {
	*testing.T
	m    api.Module
	f    api.Form
	s    []int
	tree api.Tree
}

// copyOf returns a tree in memory of its own, as far as trees and paths go.
func copyOf(t api.Tree) api.Tree {
	t.State, t.Path = slices.Clone(t.State), slices.Clone(t.Path)
	for i := range t.Path {
		t.Path[i] = slices.Clone(t.Path[i])
	}
	t.Kids = slices.Clone(t.Kids)
	for i, kid := range t.Kids {
		t.Kids[i] = copyOf(kid)
	}
	return t
}

// trees returns pointers to all trees in t, each before its Kids.
func trees(t *api.Tree) []*api.Tree {
	l := []*api.Tree{t}
	for i := range t.Kids {
		l = append(l, trees(&t.Kids[i])...)
	}
	return l
}

// refused checks that the tree is refused with that error when its tree with that number is changed.
func (c checked) refused(about string, number int, want api.Errno, change func(t *api.Tree)) {
	c.Helper()
	bad := copyOf(c.tree)
	change(trees(&bad)[number])
	if l, e := paths.Check(c.m, c.f, c.s, bad); len(l) != 0 || e != want {
		c.Fatalf("%v: %v: %s of tree %d: %d; want %d; %v", c.m, c.f, about, number, e, want, bad)
	}
}

// accepted checks the tree itself.
func (c checked) accepted() {
	c.Helper()
	before := fmt.Sprint(c.m, c.f, c.s, c.tree)
	l, e := paths.Check(c.m, c.f, c.s, c.tree)
	if e != api.OK || fmt.Sprint(l) != fmt.Sprint(claims(c.tree)) {
		c.Fatalf("%v: %v: %d, %v; %v", c.m, c.f, e, l, c.tree)
	}
	if fmt.Sprint(c.m, c.f, c.s, c.tree) != before {
		c.Fatal("an argument has changed")
	}
}

// spoil changes each field of the tree with that number in every way that must not be.
func (c checked) spoil(number int, old *api.Tree) {
	c.Helper()
	for _, kind := range []int{math.MinInt, -1, 0, api.KPlain, api.KTold, api.KBoth, api.KOne, api.KPath, 6, math.MaxInt} {
		if kind != old.Kind {
			c.refused("Kind", number, api.ErrTree, func(t *api.Tree) { t.Kind = kind })
		}
	}
	other := api.Form{Op: api.FTerm, E: api.Term{Op: api.TBool, N: 1}}
	if old.Kind == api.KPlain {
		other.E = api.Term{Op: api.TNot, Kids: []api.Term{old.F.E}}
	}
	for _, f := range []api.Form{{}, other, {Op: api.FNot, Kids: []api.Form{old.F}}, {Op: old.F.Op, E: old.F.E, Kids: append(slices.Clone(old.F.Kids), other)}} {
		c.refused("F", number, api.ErrTree, func(t *api.Tree) { t.F = f })
	}
	c.refused("State", number, api.ErrTree, func(t *api.Tree) { t.State = append(t.State, 0) })
	for i := range old.State {
		c.refused("State", number, api.ErrTree, func(t *api.Tree) { t.State[i]++ })
		c.refused("State", number, api.ErrTree, func(t *api.Tree) { t.State = t.State[1:] })
	}
	c.refused("Kids", number, api.ErrTree, func(t *api.Tree) { t.Kids = append(t.Kids, api.Tree{}) })
	if len(old.Kids) > 0 {
		c.refused("Kids", number, api.ErrTree, func(t *api.Tree) { t.Kids = t.Kids[1:] })
		c.refused("Kids", number, api.ErrTree, func(t *api.Tree) { t.Kids = t.Kids[:len(t.Kids)-1] })
		c.refused("Kids", number, api.ErrTree, func(t *api.Tree) { t.Kids = nil })
	}
	for _, at := range []int{math.MinInt, -2, len(old.Path) + 2, math.MaxInt} {
		c.refused("At", number, api.ErrTree, func(t *api.Tree) { t.At = at })
		c.refused("At and Kids", number, api.ErrTree, func(t *api.Tree) { t.At, t.Kids = at, nil })
	}
	if old.Kind == api.KPath {
		c.spoilPath(number, old)
		return
	}
	for _, loop := range []int{math.MinInt, -1, 1, math.MaxInt} {
		c.refused("Loop", number, api.ErrTree, func(t *api.Tree) { t.Loop = loop })
	}
	c.refused("Path", number, api.ErrTree, func(t *api.Tree) { t.Path = [][]int{t.State} })
	c.refused("Path", number, api.ErrTree, func(t *api.Tree) { t.Path = [][]int{nil} })
	if old.Kind == api.KOne {
		c.refused("At", number, api.ErrTree, func(t *api.Tree) { t.At = -1 })
		if !forms.Same(old.F.Kids[0], old.F.Kids[1]) {
			c.refused("At", number, api.ErrTree, func(t *api.Tree) { t.At = 1 - t.At })
		}
		return
	}
	c.refused("At", number, api.ErrTree, func(t *api.Tree) { t.At = 1 })
	c.refused("At", number, api.ErrTree, func(t *api.Tree) { t.At = -1 })
}

// spoilPath is spoil for what trees with a path have besides.
func (c checked) spoilPath(number int, old *api.Tree) {
	c.Helper()
	c.refused("Path", number, api.ErrPath, func(t *api.Tree) { t.Path = nil })
	c.refused("Path", number, api.ErrPath, func(t *api.Tree) { t.Path[len(t.Path)-1] = append(t.Path[len(t.Path)-1], 1) })
	c.refused("Path", number, api.ErrPath, func(t *api.Tree) { t.Path[0] = append(t.Path[0], 1) })
	c.refused("Path and At", number, api.ErrPath, func(t *api.Tree) { t.Path, t.At, t.Kids = nil, 99, nil })
	c.refused("Path and State", number, api.ErrTree, func(t *api.Tree) { t.Path, t.State = nil, append(t.State, 0) })
	for i := range old.State {
		c.refused("Path", number, api.ErrPath, func(t *api.Tree) { t.Path[len(t.Path)-1][i] += 99 })
	}
	for _, loop := range []int{math.MinInt, -1, len(old.Path), math.MaxInt} {
		c.refused("Loop", number, api.ErrPath, func(t *api.Tree) { t.Loop = loop })
	}
	for loop := range old.Path {
		if !paths.Lasso(c.m, old.Path, loop) {
			c.refused("Loop", number, api.ErrPath, func(t *api.Tree) { t.Loop = loop })
		}
	}
	for at := -1; at <= len(old.Path); at++ {
		c.refused("At and Kids", number, api.ErrTree, func(t *api.Tree) { t.At, t.Kids = at, nil })
		switch {
		case at == old.At || old.F.Op == api.FEF && 0 <= at && at < len(old.Path):
		case len(old.Kids) == len(old.Path) && at == -1 && old.F.Op == api.FNot: // the number of Kids suits both
		default:
			c.refused("At", number, api.ErrTree, func(t *api.Tree) { t.At = at })
		}
	}
	if rest := old.Path[1:]; len(rest) > 0 && old.Loop > 0 && !slices.Equal(rest[0], old.State) {
		c.refused("Path", number, api.ErrPath, func(t *api.Tree) {
			t.Path = t.Path[1:]
			t.Loop--
		})
	}
}

// Trees that are assembled from lassos are accepted, and as soon as one thing is wrong with them they are not.
func TestTrees(t *testing.T) {
	r := rand.New(rand.NewSource(54))
	kinds, ops, long, claimed := map[int]int{}, map[int]int{}, 0, 0
	for range 4000 {
		m := sample.Module(r)
		w := witness{t, m, of(t, m)}
		if len(w.g.States) < 3 {
			continue
		}
		f := sample.Form(r, known(t, m), 1+r.Intn(4))
		i := r.Intn(len(w.g.States))
		s := w.g.States[i]
		g := forms.Push(f, false)
		if !w.sat(g)[i] {
			f, g = api.Form{Op: api.FNot, Kids: []api.Form{f}}, forms.Push(f, true)
		}
		c := checked{t, m, f, s, w.tree(g, i)}
		c.accepted()
		all := trees(&c.tree)
		if len(all) > 60 {
			continue
		}
		for number, tree := range all {
			kinds[tree.Kind]++
			ops[tree.F.Op]++
			if len(tree.Path) > 2 {
				long++
			}
			c.spoil(number, tree)
		}
		if len(claims(c.tree)) > 1 {
			claimed++
		}
		if _, e := paths.Check(m, api.Form{Op: api.FAX, Kids: []api.Form{f}}, s, c.tree); e != api.ErrTree {
			t.Fatal(e)
		}
	}
	for kind := api.KPlain; kind <= api.KPath; kind++ {
		if kinds[kind] < 100 {
			t.Error(kinds)
		}
	}
	for _, op := range []int{api.FNot, api.FEX, api.FEF, api.FEG, api.FEU, api.FAX, api.FAF, api.FAG, api.FAU} {
		if ops[op] < 30 {
			t.Error(ops)
		}
	}
	if long < 50 || claimed < 20 {
		t.Error(long, claimed)
	}
}
