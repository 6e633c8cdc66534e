package dd_test

import (
	"math/bits"
	"math/rand"
	"slices"
	"testing"

	"voussoir/api"
	"voussoir/dd"
	"voussoir/edge"
)

// enough returns the room with which no operation fails.
func enough(vars, handles int) int {
	return min(4<<(2*vars)+4*(handles+8)<<vars, api.MaxRoom)
}

// mirror is a manager together with the tables that its handles have to have.
type mirror struct {
	t      *testing.T
	r      *rand.Rand
	m      *dd.Man
	tables map[int]uint64
	ample  bool // the room is enough
	called int  // how often an operation was called
}

func newMirror(t *testing.T, r *rand.Rand, vars, room int) *mirror {
	x := &mirror{t: t, r: r, m: newMan(t, vars, room), tables: map[int]uint64{}}
	x.tables = map[int]uint64{0: 0, 1: x.all()}
	return x
}

// all returns the table of the constant true.
func (x *mirror) all() uint64 {
	return 1<<(1<<x.m.Vars()) - 1
}

// variable returns the table of variable v.
func (x *mirror) variable(v int) (values uint64) {
	for i := range 1 << x.m.Vars() {
		values |= uint64(i>>v&1) << i
	}
	return values
}

// pick returns one of the handles.
func (x *mirror) pick() int {
	var l []int
	for h := range x.tables {
		l = append(l, h)
	}
	slices.Sort(l)
	return l[x.r.Intn(len(l))]
}

// take notes what a call has answered.
func (x *mirror) take(about string, h int, e api.Errno, values uint64) {
	x.t.Helper()
	_, old := x.tables[h]
	switch {
	case e == api.ErrRoom && !x.ample && h == 0:
	case e != api.OK || old || !x.m.Is(h):
		x.t.Fatalf("%s: %d, %d", about, h, e)
	default:
		x.tables[h] = values & x.all()
	}
}

// op is the number by which the conjunctions of and are remembered.
const op = 123

// and returns the conjunction of f and g, written as an operation outside of the package would be.
func and(x *dd.Ctx, f, g edge.Edge) edge.Edge {
	if r, done := edge.Meet(f, g); done {
		return r
	}
	return x.Memo(op, f, g, 0, func() edge.Edge {
		v := x.Top(f, g)
		f0, f1 := x.Split(f, v)
		g0, g1 := x.Split(g, v)
		hi := and(x, f1, g1)
		return x.Mk(v, and(x, f0, g0), hi)
	})
}

// step does something to the manager.
func (x *mirror) step() {
	f, g, h := x.pick(), x.pick(), x.pick()
	a, b, c := x.tables[f], x.tables[g], x.tables[h]
	switch vars := x.m.Vars(); x.r.Intn(12) {
	case 0:
		v := x.r.Intn(vars+2) - 1
		if v < 0 || v == vars {
			fails(x.t, x.m, api.ErrVar, func() (int, api.Errno) { return x.m.Var(v) })
			break
		}
		k, e := x.m.Var(v)
		x.take("Var", k, e, x.variable(v))
	case 1:
		k, e := x.m.Not(f)
		x.take("Not", k, e, ^a)
	case 2:
		k, e := x.m.Copy(f)
		x.take("Copy", k, e, a)
	case 3, 4, 5:
		k, e := x.m.Ite(f, g, h)
		x.take("Ite", k, e, a&b|^a&c)
	case 6:
		k, e := x.m.Do(func(y *dd.Ctx) edge.Edge {
			x.called++
			return and(y, y.Ite(y.Edge(f), edge.One, y.Edge(g)), and(y, y.Edge(h), y.Edge(g).Not()).Not())
		})
		x.take("Do", k, e, (a|b)&^(c&^b))
	case 7:
		level := x.r.Intn(vars+1) - 1
		e := x.m.Swap(level)
		if wrong := level < 0 || level > vars-2; wrong != (e == api.ErrRange) || e == api.ErrRoom && x.ample {
			x.t.Fatalf("Swap(%d): %d", level, e)
		}
	case 8:
		x.m.Collect()
		if x.m.Collect() != 0 {
			x.t.Fatal("a Collect after a Collect removes something")
		}
	case 9:
		event := api.Event{After: 1 + x.r.Intn(20), Kind: 1 + x.r.Intn(3), Level: x.r.Intn(max(vars-1, 1))}
		if e := x.m.Plan(event); e != api.OK && x.m.Waits() < api.MaxEvents && (vars > 1 || event.Kind != api.EvSwap) {
			x.t.Fatalf("Plan(%v): %d", event, e)
		}
	default:
		if e := x.m.Drop(f); e != api.OK {
			x.t.Fatalf("Drop(%d): %d", f, e)
		}
		if f > 1 {
			delete(x.tables, f)
		}
	}
}

// check compares the manager with the tables.
func (x *mirror) check() {
	if x.m.Handles() != len(x.tables) {
		x.t.Fatalf("%d handles; want %d", x.m.Handles(), len(x.tables))
	}
	for f, values := range x.tables {
		if got := table(x.t, x.m, f); got != values {
			x.t.Fatalf("handle %d: %x; want %x", f, got, values)
		}
	}
	f, g := x.pick(), x.pick()
	same(x.t, x.m, f, g, x.tables[f] == x.tables[g])
	refs, held := 0, 0
	for n := range x.m.Each() {
		refs += n.Refs
	}
	for _, values := range x.tables {
		if values != 0 && values != x.all() {
			held++
		}
	}
	if refs != held {
		x.t.Fatalf("%d references; want %d", refs, held)
	}
}

func TestRandomCalls(t *testing.T) {
	r := rand.New(rand.NewSource(13))
	for round := range 300 {
		vars, handles := r.Intn(6), 2+r.Intn(12)
		x := newMirror(t, r, vars, enough(vars, handles))
		x.ample = round%2 == 0
		if !x.ample {
			x = newMirror(t, r, vars, 1+r.Intn(30))
		}
		for range 150 {
			x.step()
			x.check()
			for len(x.tables) > handles {
				if f := x.pick(); f > 1 {
					x.m.Drop(f)
					delete(x.tables, f)
				}
			}
		}
	}
}

func TestManyEventsAmidOperations(t *testing.T) {
	r := rand.New(rand.NewSource(14))
	for range 60 {
		vars := 2 + r.Intn(4)
		x := newMirror(t, r, vars, enough(vars, 12))
		x.ample = true
		for v := range vars {
			h, e := x.m.Var(v)
			x.take("Var", h, e, x.variable(v))
		}
		for range 40 {
			for range r.Intn(30) {
				x.m.Plan(api.Event{After: 1 + r.Intn(6), Kind: 1 + r.Intn(3), Level: r.Intn(vars - 1)})
			}
			x.step()
			x.check()
			if x.called > 2000 {
				t.Fatal("an operation is called too often")
			}
			for len(x.tables) >= 11 {
				if f := x.pick(); f > 1 {
					x.m.Drop(f)
					delete(x.tables, f)
				}
			}
		}
	}
}

// An operation of which all nodes belong to its result fails if and only if these, and those of the handles, do not find room.
func TestExactRoom(t *testing.T) {
	r := rand.New(rand.NewSource(15))
	for range 150 {
		room := 3 + r.Intn(25)
		tight, wide := newMan(t, 5, room), newMan(t, 5, api.MaxRoom)
		names := map[int]int{0: 0, 1: 1} // from handles of tight to those of wide
		handles := []int{0, 1}
		for range 100 {
			pick := func() int { return handles[r.Intn(len(handles))] }
			f, g, h := pick(), pick(), pick()
			var k, w int
			var e, e2 api.Errno
			switch v := r.Intn(5); r.Intn(3) {
			case 0:
				k, e = tight.Var(v)
				w, e2 = wide.Var(v)
			case 1:
				k, e = tight.Ite(f, g, h)
				w, e2 = wide.Ite(names[f], names[g], names[h])
			default:
				if f > 1 {
					tight.Drop(f)
					wide.Drop(names[f])
					handles = slices.DeleteFunc(handles, func(h int) bool { return h == f })
				}
				continue
			}
			wide.Collect()
			fits := wide.Len() <= room
			if e2 != api.OK || fits != (e == api.OK) || !fits && e != api.ErrRoom {
				t.Fatalf("room %d, needed %d: %d, %d", room, wide.Len(), e, e2)
			}
			if e != api.OK {
				wide.Drop(w)
				continue
			}
			names[k] = w
			handles = append(handles, k)
		}
	}
}

func TestManyVariables(t *testing.T) {
	m := newMan(t, api.MaxVars, 5000)
	h := handle(t, m)
	r := rand.New(rand.NewSource(16))
	parity, all := h(m.Copy(0)), h(m.Copy(1))
	for i := range 200 {
		m.Plan(api.Event{After: 1 + r.Intn(300), Kind: 1 + r.Intn(3), Level: r.Intn(63)})
		if i < api.MaxVars {
			f := h(m.Var(i))
			not := h(m.Not(parity))
			odd, both := h(m.Ite(f, not, parity)), h(m.Ite(f, all, 0))
			m.Drop(f, not, parity, all)
			parity, all = odd, both
			continue
		}
		l := make([]bool, api.MaxVars)
		set := r.Uint64()
		if i%2 == 0 {
			set |= ^uint64(0) << (i % 3)
		}
		for v := range l {
			l[v] = set>>v&1 == 1
		}
		odd, _ := m.Eval(parity, l)
		every, _ := m.Eval(all, l)
		if odd != (bits.OnesCount64(set)%2 == 1) || every != (set == ^uint64(0)) {
			t.Fatalf("wrong at %x: %v, %v", set, odd, every)
		}
		m.Drop(h(m.Ite(parity, all, 1)))
	}
}
