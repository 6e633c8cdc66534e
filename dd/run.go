package dd

import (
	"voussoir/api"
	"voussoir/edge"
)

// Do calls op, again if it is aborted, and returns a new handle for the function of the edge that op returns.
func (m *Man) Do(op func(x *Ctx) edge.Edge) (h int, e api.Errno) {
	f, e := m.run(op)
	if e != api.OK {
		return 0, e
	}
	m.store.Hold(f)
	h = m.next
	m.next++
	m.edges[h] = f
	return h, api.OK
}

// Look calls op, again if it is aborted.
func (m *Man) Look(op func(x *Ctx)) api.Errno {
	if m != nil && op == nil {
		return api.ErrArg
	}
	_, e := m.run(func(x *Ctx) edge.Edge {
		op(x)
		return edge.One
	})
	return e
}

// run calls op until it comes to an end, and returns the edge that op returns, or why it fails.
func (m *Man) run(op func(x *Ctx) edge.Edge) (f edge.Edge, e api.Errno) {
	switch {
	case m == nil:
		return 0, api.ErrNone
	case op == nil:
		return 0, api.ErrArg
	}
	for {
		x := m.begin()
		f := x.attempt(op)
		switch {
		case x.due:
			m.interrupt()
		case x.fault == api.ErrRoom && !x.whole.tidy:
			m.Collect()
		case x.fault != api.OK:
			return 0, x.fault
		case !m.store.Is(f):
			return 0, api.ErrHandle
		default:
			return f, api.OK
		}
	}
}

// begin returns the Ctx for an attempt at an operation.
func (m *Man) begin() *Ctx {
	x := &Ctx{m: m, whole: m.running}
	if x.whole == nil {
		x.whole = x
		x.tidy = m.store.Dead() == 0
		m.running = x
	}
	return x
}

// attempt calls op and returns what it returns, which counts only if x tells of nothing that ended it.
func (x *Ctx) attempt(op func(x *Ctx) edge.Edge) edge.Edge {
	m := x.m
	defer func() {
		x.m = nil
		if m.running == x {
			m.running = nil
		}
		switch ended := recover().(type) {
		case nil:
		case *Ctx:
			if ended != x {
				panic(ended)
			}
		default:
			panic(ended)
		}
	}()
	return op(x)
}

// fail ends the attempt with an error.
func (x *Ctx) fail(e api.Errno) {
	x.fault = e
	panic(x)
}
