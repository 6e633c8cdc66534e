// Package atlas is for the tests of what deals with sets of states: it holds the sets of models of few bits against their tables.
package atlas

import (
	"slices"

	"voussoir/api"
	"voussoir/dd"
	"voussoir/edge"
	"voussoir/graph"
	"voussoir/rel"
	"voussoir/sample"
	"voussoir/supp"
	"voussoir/trial"
	"voussoir/typing"
	"voussoir/vset"
)

// World is a manager with the relation of a model that has at most six bits. A set is known by its table, too: bit i is the value where the bits of a state are those of i.
type World struct {
	*trial.World
	Rel   *rel.Rel
	Graph graph.Graph
	codes []int // the bits of each state of the graph
}

// New returns a world with a manager of so many variables and room for so many nodes, if the relation finds room.
func New(t trial.Test, r trial.Random, mod api.Module, vars, room int) (w World, e api.Errno) {
	t.Helper()
	w.World = trial.New(t, r, vars, room)
	if w.Graph, e = graph.Of(mod); e != api.OK {
		t.Fatal(mod, e)
	}
	for range 2 * vars {
		w.M.Swap(r.Intn(vars))
	}
	if w.Rel, e = rel.New(w.M, mod); e != api.OK {
		return w, e
	}
	for _, s := range w.Graph.States {
		b, e := w.Rel.Layout().Code(s)
		if e != api.OK {
			t.Fatal(s, e)
		}
		code := 0
		for i, yes := range b {
			if yes {
				code |= 1 << i
			}
		}
		w.codes = append(w.codes, code)
	}
	return w, api.OK
}

// Some returns the world of a model made by chance, with room enough for so many handles, and at most two variables that no bit has.
func Some(t trial.Test, r trial.Random, handles int) World {
	t.Helper()
	mod := sample.Module(r)
	vars := 2*typing.Bits(mod) + r.Intn(3)
	w, e := New(t, r, mod, vars, trial.Enough(vars, handles))
	if e != api.OK {
		t.Fatal(mod, e)
	}
	return w
}

// Of returns the world of the model with that text, with ample room and one variable that no bit has.
func Of(t trial.Test, r trial.Random, s string) World {
	t.Helper()
	mod := sample.Model(t, s)
	w, e := New(t, r, mod, 2*typing.Bits(mod)+1, 20000)
	if e != api.OK {
		t.Fatal(s, e)
	}
	return w
}

// Now returns the manager's variables for the current bits.
func (w World) Now() []int {
	return w.Rel.Layout().AllNow()
}

// Next returns the manager's variables for the next-state bits.
func (w World) Next() []int {
	return w.Rel.Layout().AllNext()
}

// Full returns the table that is true for all bits.
func (w World) Full() uint64 {
	return 1<<(1<<len(w.Now())) - 1
}

// Put returns a new handle of the function whose value is that of the table at the bits that these variables have, if it finds room.
func (w World) Put(values uint64, vars []int) (h int, e api.Errno) {
	return w.M.Do(func(x *dd.Ctx) edge.Edge {
		var build func(b int, values uint64) edge.Edge
		build = func(b int, values uint64) edge.Edge {
			if b == len(vars) {
				return edge.Zero.Flip(values&1 == 1)
			}
			lo, hi := build(b+1, trial.Cofactor(values, b, 0)), build(b+1, trial.Cofactor(values, b, 1))
			return x.Ite(x.Mk(vars[b], edge.Zero, edge.One), hi, lo)
		}
		return build(0, values)
	})
}

// Set returns a new handle of a function of the current bits.
func (w World) Set(values uint64) int {
	w.T.Helper()
	return w.Right(w.Put(values, w.Now()))
}

// Read returns the table of a function of these variables.
func (w World) Read(h int, vars []int) (values uint64) {
	w.T.Helper()
	if used, e := supp.Support(w.M, h); !vset.Within(used, vars) || e != api.OK {
		w.T.Fatalf("a function of %v, %d; want one of %v", used, e, vars)
	}
	for code := range 1 << len(vars) {
		l := make([]bool, w.M.Vars())
		for b, v := range vars {
			l[v] = code>>b&1 == 1
		}
		if yes, e := w.M.Eval(h, l); yes && e == api.OK {
			values |= 1 << code
		}
	}
	return values
}

// Gives returns a check that a call has answered a new handle of the function of these variables with that table, which is dropped.
func (w World) Gives(about string, want uint64, vars []int) func(h int, e api.Errno) {
	many := w.M.Handles()
	return func(h int, e api.Errno) {
		w.T.Helper()
		w.Right(h, e)
		if got := w.Read(h, vars); got != want || w.M.Handles() != many+1 {
			w.T.Fatalf("%s: %x, and %d handles; want %x, and %d handles; %v", about, got, w.M.Handles(), want, many+1, w.Rel.Module())
		}
		w.M.Drop(h)
	}
}

// GivesSet is Gives for functions of the current bits.
func (w World) GivesSet(about string, want uint64) func(h int, e api.Errno) {
	return w.Gives(about, want, w.Now())
}

// Where returns the table of the states for which a condition on their index in the graph holds.
func (w World) Where(holds func(i int) bool) (values uint64) {
	for i := range w.codes {
		if holds(i) {
			values |= w.One(i)
		}
	}
	return values
}

// States returns the table of all states.
func (w World) States() uint64 {
	return w.Where(func(int) bool { return true })
}

// One returns the table of the state with that index.
func (w World) One(i int) uint64 {
	return 1 << w.codes[i]
}

// In reports whether a set contains the state with that index.
func (w World) In(values uint64, i int) bool {
	return values&w.One(i) != 0
}

// Post returns the table of the states that have a transition from a state of a set.
func (w World) Post(values uint64) uint64 {
	return w.Where(func(i int) bool {
		for k, next := range w.Graph.Next {
			if w.In(values, k) && slices.Contains(next, i) {
				return true
			}
		}
		return false
	})
}

// Pre returns the table of the states that have a transition to a state of a set.
func (w World) Pre(values uint64) uint64 {
	return w.Where(func(i int) bool {
		return slices.ContainsFunc(w.Graph.Next[i], func(k int) bool { return w.In(values, k) })
	})
}
