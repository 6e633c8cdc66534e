package blast

import (
	"cmp"
	"maps"
	"slices"

	"voussoir/api"
	"voussoir/cubes"
	"voussoir/dd"
	"voussoir/dyadic"
	"voussoir/edge"
	"voussoir/enc"
	"voussoir/terms"
	"voussoir/typing"
)

// work is what terms are evaluated with. A Boolean term has the values 0 and 1. A case is false wherever bits that the term reads encode no value.
type work struct {
	m *dd.Man
	l enc.Layout
}

// meeting stands for the assignments where the function with is true, and one of the cases that have these indices, too. There a term has the value n.
type meeting struct {
	n, with int
	indices []int
}

// truth returns a new handle of the function that is true where a Boolean term is.
func (w work) truth(t api.Term) (h int, e api.Errno) {
	c, e := w.cases(t)
	if e != api.OK {
		return 0, e
	}
	defer w.drop(c)
	for _, k := range c {
		if k.N == 1 {
			return w.m.Copy(k.H)
		}
	}
	return w.m.Copy(w.m.Const(false))
}

// drop drops the handles of cases.
func (w work) drop(l ...[]Case) {
	for _, k := range slices.Concat(l...) {
		w.m.Drop(k.H)
	}
}

// cases returns the values of a valid term, in increasing order if it is a number.
func (w work) cases(t api.Term) ([]Case, api.Errno) {
	switch t.Op {
	case api.TNum, api.TBool:
		h, e := w.m.Copy(w.m.Const(true))
		if e != api.OK {
			return nil, e
		}
		return []Case{{t.N, h}}, api.OK
	case api.TName, api.TNext:
		return w.values(w.l.Index(t.Name), t.Op == api.TNext)
	case api.TNot:
		return w.opposite(t.Kids[0])
	case api.TIf:
		return w.choice(t.Kids)
	}
	return w.fold(t.Kids, dyadic.Of(t.Op))
}

// values returns the values of variable i.
func (w work) values(i int, next bool) (c []Case, e api.Errno) {
	for k := range typing.Span(w.l.Vars[i]) {
		var cube []api.Lit
		for bit, v := range places(w.l, i, next) {
			cube = append(cube, api.Lit{Var: v, Yes: k>>bit&1 == 1})
		}
		h, e := cubes.Of(w.m, cube...)
		if e != api.OK {
			w.drop(c)
			return nil, e
		}
		c = append(c, Case{w.l.Vars[i].Lo + k, h})
	}
	return c, api.OK
}

// opposite returns the values of the negation of t.
func (w work) opposite(t api.Term) ([]Case, api.Errno) {
	c, e := w.cases(t)
	for i := range c {
		c[i].N = 1 - c[i].N
	}
	return c, e
}

// bySize returns the indices of terms, that of the greatest one first. In this order hardly any results have to wait while others are computed.
func bySize(l []api.Term) []int {
	order := make([]int, len(l))
	sizes := make([]int, len(l))
	for i, t := range l {
		order[i] = i
		sizes[i] = terms.Size(t)
	}
	slices.SortStableFunc(order, func(i, k int) int { return cmp.Compare(sizes[k], sizes[i]) })
	return order
}

// choice returns the values of "if kids[0] then kids[1] else kids[2]".
func (w work) choice(kids []api.Term) ([]Case, api.Errno) {
	var parts [3][]Case
	defer func() { w.drop(parts[:]...) }()
	for _, i := range bySize(kids) {
		var e api.Errno
		if parts[i], e = w.cases(kids[i]); e != api.OK {
			return nil, e
		}
	}
	ways := slices.Concat(parts[1], parts[2])
	var l []meeting
	for _, condition := range parts[0] {
		first, last := 0, len(parts[1])
		if condition.N == 0 {
			first, last = last, len(ways)
		}
		for i := first; i < last; i++ {
			l = append(l, meeting{ways[i].N, condition.H, []int{i}})
		}
	}
	return w.collect(l, ways)
}

// fold returns the values of an operation on one, two or more terms; if on more than two, the operation is a minimum or a maximum.
func (w work) fold(kids []api.Term, op func(a, b int) int) ([]Case, api.Errno) {
	order := bySize(kids)
	c, e := w.cases(kids[order[0]])
	for _, i := range order[1:] {
		if e != api.OK {
			return nil, e
		}
		c, e = w.further(c, op, kids[i], i < order[0])
	}
	return c, e
}

// further returns the values of an operation on a term with the cases c, which it drops, and t; before tells that t is the first of the two.
func (w work) further(c []Case, op func(a, b int) int, t api.Term, before bool) ([]Case, api.Errno) {
	more, e := w.cases(t)
	switch {
	case e != api.OK:
		w.drop(c)
		return nil, e
	case before:
		return w.join(more, c, op)
	}
	return w.join(c, more, op)
}

// join returns the values of an operation on two terms and drops the cases of these.
func (w work) join(a, b []Case, op func(a, b int) int) ([]Case, api.Errno) {
	defer w.drop(a, b)
	var l []meeting
	for _, j := range a {
		partners := map[int][]int{}
		for i, k := range b {
			n := op(j.N, k.N)
			partners[n] = append(partners[n], i)
		}
		for n, indices := range partners {
			l = append(l, meeting{n, j.H, indices})
		}
	}
	return w.collect(l, b)
}

// collect returns the cases for the values of l, in which the indices are those of c. For each value it makes one operation, so that nothing has to be kept but results.
func (w work) collect(l []meeting, c []Case) (r []Case, e api.Errno) {
	places := map[int][]meeting{}
	for _, k := range l {
		places[k.n] = append(places[k.n], k)
	}
	for _, n := range slices.Sorted(maps.Keys(places)) {
		h, e := w.m.Do(func(x *dd.Ctx) edge.Edge { return meet(x, places[n], c) })
		if e != api.OK {
			w.drop(r)
			return nil, e
		}
		if never, _ := w.m.Same(h, w.m.Const(false)); never {
			w.m.Drop(h)
			continue
		}
		r = append(r, Case{n, h})
	}
	return r, api.OK
}

// meet returns the function that is true where one of the meetings is.
func meet(x *dd.Ctx, l []meeting, c []Case) edge.Edge {
	if len(l) == 1 {
		return x.Ite(x.Edge(l[0].with), unite(x, l[0].indices, c, 0), edge.Zero)
	}
	half := len(l) / 2
	return x.Ite(meet(x, l[:half], c), edge.One, meet(x, l[half:], c))
}

// unite returns the function that is true where one of the cases with these indices is; that of c[0] is first. The cases are halved at the same places whatever the indices are, so that different unions have parts in common.
func unite(x *dd.Ctx, indices []int, c []Case, first int) edge.Edge {
	switch len(indices) {
	case 0:
		return edge.Zero
	case 1:
		return x.Edge(c[indices[0]-first].H)
	}
	half := len(c) / 2
	k, _ := slices.BinarySearch(indices, first+half)
	low, high := unite(x, indices[:k], c[:half], first), unite(x, indices[k:], c[half:], first+half)
	return x.Ite(low, edge.One, high)
}
