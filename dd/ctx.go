package dd

import (
	"voussoir/api"
	"voussoir/edge"
)

// Operations of which the manager remembers results.
const (
	opIte     = 0
	opOfOther = 100 // the first one that is not its own
)

// Ctx is what an operation computes with, while it is called once. It ends the call by a panic with itself as the value.
type Ctx struct {
	m     *Man      // nil when the call has ended
	whole *Ctx      // that of the operation inside of which this one was begun, or itself
	tidy  bool      // no node was dead in the beginning
	due   bool      // the call was ended for an event
	fault api.Errno // or for this error
}

// shut reports whether x is of no use: its call has ended.
func (x *Ctx) shut() bool {
	return x == nil || x.m == nil
}

// Edge returns the edge of a handle.
func (x *Ctx) Edge(h int) edge.Edge {
	if x.shut() {
		return 0
	}
	f, found := x.m.edges[h]
	if !found {
		x.fail(api.ErrHandle)
	}
	return f
}

// Level returns the level of variable v, or -1.
func (x *Ctx) Level(v int) int {
	if x.shut() {
		return -1
	}
	return x.m.store.Level(v)
}

// Top returns the variable with the smallest level among those of the edges' nodes, or -1.
func (x *Ctx) Top(l ...edge.Edge) int {
	top := -1
	if x.shut() {
		return top
	}
	for _, f := range l {
		v, _, _, found := x.m.store.At(f)
		if found && (top < 0 || x.Level(v) < x.Level(top)) {
			top = v
		}
	}
	return top
}

// Split returns the cofactors of f with v false and with v true. No variable of f is above v.
func (x *Ctx) Split(f edge.Edge, v int) (lo, hi edge.Edge) {
	if x.shut() {
		return 0, 0
	}
	top, lo, hi, found := x.m.store.At(f)
	if !found || top != v {
		return f, f
	}
	return lo, hi
}

// Mk returns the edge whose value is that of hi where v is true and that of lo where v is false.
func (x *Ctx) Mk(v int, lo, hi edge.Edge) edge.Edge {
	if x.shut() {
		return 0
	}
	if x.m.count() {
		x.whole.due = true
		panic(x.whole)
	}
	return x.node(v, lo, hi)
}

// node is Mk without being counted.
func (x *Ctx) node(v int, lo, hi edge.Edge) edge.Edge {
	f, e := x.m.store.Mk(v, lo, hi)
	switch {
	case e == api.ErrRoom && !x.whole.tidy:
		x.whole.fail(e)
	case e != api.OK:
		x.fail(e)
	}
	return f
}

// Ite returns the edge of if-then-else.
func (x *Ctx) Ite(f, g, h edge.Edge) edge.Edge {
	if x.shut() {
		return 0
	}
	for _, operand := range [3]edge.Edge{f, g, h} {
		if !x.m.store.Is(operand) {
			x.fail(api.ErrHandle)
		}
	}
	return x.ite(f, g, h)
}

// ite is Ite for edges of nodes in the store.
func (x *Ctx) ite(f, g, h edge.Edge) edge.Edge {
	f, g, h, not, r, done := edge.Ite(f, g, h)
	if done {
		return r
	}
	r, found := x.m.results.Get(opIte, f, g, h)
	if !found {
		v := x.Top(f, g, h)
		f0, f1 := x.Split(f, v)
		g0, g1 := x.Split(g, v)
		h0, h1 := x.Split(h, v)
		lo := x.ite(f0, g0, h0)
		hi := x.ite(f1, g1, h1)
		r = x.Mk(v, lo, hi)
		x.m.results.Put(opIte, f, g, h, r)
	}
	return r.Flip(not)
}

// Memo returns the result of f, or one that was remembered for op and these edges.
func (x *Ctx) Memo(op int, a, b, c edge.Edge, f func() edge.Edge) edge.Edge {
	switch {
	case x.shut():
		return 0
	case f == nil:
		x.fail(api.ErrArg)
	case op < opOfOther:
		return f()
	}
	r, found := x.m.results.Get(op, a, b, c)
	if !found {
		r = f()
		x.m.results.Put(op, a, b, c, r)
	}
	return r
}

// value returns the value of f at the assignment l.
func (x *Ctx) value(f edge.Edge, l []bool) bool {
	for !f.Const() {
		v := x.Top(f)
		lo, hi := x.Split(f, v)
		f = lo
		if v < len(l) && l[v] {
			f = hi
		}
	}
	return f == edge.One
}
