// Package trial is for the tests of operations on BDDs: it holds functions of few variables against their tables.
package trial

import (
	"voussoir/api"
	"voussoir/dd"
	"voussoir/edge"
)

// mostVars is the number of variables of which a table fits into a word.
const mostVars = 6

// Test is what a test is told.
type Test interface {
	Helper()
	Errorf(format string, args ...any)
	Fatal(args ...any)
	Fatalf(format string, args ...any)
}

// Random is where a test gets its numbers from.
type Random interface {
	Intn(n int) int
	Uint64() uint64
}

// World is a manager with at most six variables. Its functions are known by their tables, too: bit i is the value where variable v has the value of bit v of i.
type World struct {
	T Test
	R Random
	M *dd.Man
}

// New returns a world with a new manager.
func New(t Test, r Random, vars, room int) *World {
	t.Helper()
	m, e := dd.New(vars, room)
	if e != api.OK {
		t.Fatalf("a manager of %d variables with room %d: %d", vars, room, e)
	}
	return &World{t, r, m}
}

// Enough returns the room with which no operation fails.
func Enough(vars, handles int) int {
	return min(4<<(2*vars)+4*(handles+8)<<vars, api.MaxRoom)
}

// All returns the table of the constant true.
func (w *World) All() uint64 {
	return 1<<(1<<w.M.Vars()) - 1
}

// Some returns a table; some functions depend on few variables.
func (w *World) Some() uint64 {
	values := w.R.Uint64()
	for v := range w.M.Vars() {
		if w.R.Intn(4) == 0 {
			values = Cofactor(values, v, w.R.Intn(2))
		}
	}
	return values & w.All()
}

// Cofactor returns the table of a function where variable v has that value.
func Cofactor(values uint64, v, value int) (cut uint64) {
	for i := range 1 << mostVars {
		cut |= values >> (i&^(1<<v) | value<<v) & 1 << i
	}
	return cut
}

// Depends reports whether a function depends on variable v.
func Depends(values uint64, v int) bool {
	return Cofactor(values, v, 0) != Cofactor(values, v, 1)
}

// Variable returns the table of variable v.
func (w *World) Variable(v int) (values uint64) {
	for i := range 1 << w.M.Vars() {
		values |= uint64(i>>v&1) << i
	}
	return values
}

// Handle returns a new handle of the function with that table.
func (w *World) Handle(values uint64) int {
	w.T.Helper()
	return w.Right(w.M.Do(func(x *dd.Ctx) edge.Edge {
		var build func(v int, values uint64) edge.Edge
		build = func(v int, values uint64) edge.Edge {
			if v == w.M.Vars() {
				return edge.Zero.Flip(values&1 == 1)
			}
			lo, hi := build(v+1, Cofactor(values, v, 0)), build(v+1, Cofactor(values, v, 1))
			return x.Ite(x.Mk(v, edge.Zero, edge.One), hi, lo)
		}
		return build(0, values)
	}))
}

// Table returns the table of h.
func (w *World) Table(h int) (values uint64) {
	w.T.Helper()
	for i := range 1 << w.M.Vars() {
		yes, e := w.M.Eval(h, w.Assignment(i))
		if e != api.OK {
			w.T.Fatalf("Eval(%d): %d", h, e)
		}
		if yes {
			values |= 1 << i
		}
	}
	return values
}

// Assignment returns the assignment that bit i of a table is for.
func (w *World) Assignment(i int) []bool {
	var l []bool
	for v := range w.M.Vars() {
		l = append(l, i>>v&1 == 1)
	}
	return l
}

// Disturb swaps, collects and plans events.
func (w *World) Disturb() {
	vars := w.M.Vars()
	for range w.R.Intn(3) {
		w.M.Swap(w.R.Intn(vars + 1))
	}
	if w.R.Intn(4) == 0 {
		w.M.Collect()
	}
	for range w.R.Intn(4) {
		w.M.Plan(api.Event{After: 1 + w.R.Intn(12), Kind: 1 + w.R.Intn(3), Level: w.R.Intn(max(vars-1, 1))})
	}
}

// DropAll drops all handles but those of the constants.
func (w *World) DropAll() {
	for h := 2; w.M.Handles() > 2; h++ {
		w.M.Drop(h)
	}
}
