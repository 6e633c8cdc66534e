package dd_test

import (
	"math"
	"slices"
	"testing"

	"voussoir/api"
	"voussoir/dd"
	"voussoir/edge"
)

func newMan(t *testing.T, vars, room int) *dd.Man {
	t.Helper()
	m, e := dd.New(vars, room)
	if m == nil || e != api.OK {
		t.Fatalf("New(%d, %d): %d", vars, room, e)
	}
	return m
}

// handle returns h, which e tells to be one.
func handle(t *testing.T, m *dd.Man) func(h int, e api.Errno) int {
	return func(h int, e api.Errno) int {
		t.Helper()
		if e != api.OK || !m.Is(h) {
			t.Fatalf("handle %d, %d", h, e)
		}
		return h
	}
}

func expect(t *testing.T, about string, got, want api.Errno) {
	t.Helper()
	if got != want {
		t.Errorf("%s: %d; want %d", about, got, want)
	}
}

// fails checks that a call has failed and that it has left no handle.
func fails(t *testing.T, m *dd.Man, want api.Errno, call func() (int, api.Errno)) {
	t.Helper()
	before := m.Handles()
	if h, e := call(); h != 0 || e != want || m.Handles() != before {
		t.Errorf("%d, %d, and %d handles; want %d, and %d handles", h, e, m.Handles(), want, before)
	}
}

// same checks whether f and g denote the same function.
func same(t *testing.T, m *dd.Man, f, g int, want bool) {
	t.Helper()
	if yes, e := m.Same(f, g); yes != want || e != api.OK {
		t.Errorf("Same(%d, %d): %v, %d", f, g, yes, e)
	}
}

// table returns the values of f, with variable v as bit v of the index.
func table(t *testing.T, m *dd.Man, f int) (values uint64) {
	t.Helper()
	for i := range 1 << m.Vars() {
		var l []bool
		for v := range m.Vars() {
			l = append(l, i>>v&1 == 1)
		}
		yes, e := m.Eval(f, l)
		if e != api.OK {
			t.Fatalf("Eval(%d): %d", f, e)
		}
		if yes {
			values |= 1 << i
		}
	}
	return values
}

func TestTheExamples(t *testing.T) {
	m := newMan(t, 2, 100)
	h := handle(t, m)
	if a, b := h(m.Var(0)), h(m.Var(1)); a != 2 || b != 3 {
		t.Fatal(a, b)
	}
	f, g := h(m.Ite(2, 3, 0)), h(m.Ite(3, 2, 0))
	if f != 4 || g != 5 || table(t, m, f) != 8 || table(t, m, g) != 8 {
		t.Error(f, g, table(t, m, f), table(t, m, g))
	}
	same(t, m, f, g, true)
}

func TestNew(t *testing.T) {
	for _, x := range [][2]int{{-1, 1}, {65, 1}, {math.MinInt, 1}, {math.MaxInt, 5}, {0, 0}, {3, -1}, {3, api.MaxRoom + 1}, {-1, 0}} {
		if m, e := dd.New(x[0], x[1]); m != nil || e != api.ErrRange {
			t.Errorf("New(%d, %d): %d", x[0], x[1], e)
		}
	}
	for _, x := range [][2]int{{0, 1}, {1, 1}, {64, api.MaxRoom}, {5, 77}} {
		m := newMan(t, x[0], x[1])
		if m.Vars() != x[0] || m.Room() != x[1] || m.Len() != 0 || m.Handles() != 2 || m.Waits() != 0 || m.Collect() != 0 {
			t.Errorf("New(%d, %d): %d, %d, %d, %d, %d", x[0], x[1], m.Vars(), m.Room(), m.Len(), m.Handles(), m.Waits())
		}
		if m.Const(false) != 0 || m.Const(true) != 1 || !m.Is(0) || !m.Is(1) || len(slices.Collect(m.Each())) != 0 {
			t.Errorf("New(%d, %d): no constants, or nodes", x[0], x[1])
		}
		for _, h := range []int{-1, 2, 3, math.MinInt, math.MaxInt} {
			if m.Is(h) {
				t.Errorf("New(%d, %d): handle %d", x[0], x[1], h)
			}
		}
		order := m.Order()
		for v := range x[0] {
			if order[v] != v {
				t.Error(order)
			}
		}
	}
}

func TestConstants(t *testing.T) {
	m := newMan(t, 2, 10)
	h := handle(t, m)
	for range 3 {
		expect(t, "Drop of the constants", m.Drop(0, 1, 1, 0), api.OK)
	}
	for _, l := range [][]bool{nil, {true}, {false, true, true}} {
		if no, e := m.Eval(0, l); no || e != api.OK {
			t.Error(no, e)
		}
		if yes, e := m.Eval(1, l); !yes || e != api.OK {
			t.Error(yes, e)
		}
	}
	f, g := h(m.Not(0)), h(m.Copy(0))
	if f != 2 || g != 3 || m.Handles() != 4 || m.Len() != 0 {
		t.Error(f, g, m.Handles())
	}
	same(t, m, f, 1, true)
	same(t, m, g, 0, true)
	same(t, m, f, g, false)
	expect(t, "Drop of the copies", m.Drop(f, g), api.OK)
	if m.Handles() != 2 || !m.Is(0) || !m.Is(1) || m.Is(f) || m.Is(g) {
		t.Error(m.Handles())
	}
}

func TestHandles(t *testing.T) {
	m := newMan(t, 3, 10)
	h := handle(t, m)
	a, b := h(m.Var(0)), h(m.Var(0))
	c := h(m.Copy(a))
	if a != 2 || b != 3 || c != 4 || m.Handles() != 5 || m.Len() != 1 {
		t.Error(a, b, c, m.Handles(), m.Len())
	}
	same(t, m, a, b, true)
	same(t, m, a, c, true)
	want := []api.Node{{ID: 1, Var: 0, Lo: int(edge.Zero), Hi: int(edge.One), Refs: 3}}
	if !slices.Equal(slices.Collect(m.Each()), want) {
		t.Error(slices.Collect(m.Each()))
	}
	expect(t, "Drop", m.Drop(b), api.OK)
	expect(t, "Drop of nothing", m.Drop(), api.OK)
	expect(t, "Drop once more", m.Drop(b), api.ErrHandle)
	if d := h(m.Var(2)); d != 5 || m.Is(b) {
		t.Error("a number is used again:", d)
	}
	expect(t, "Drop up to a wrong one", m.Drop(a, 0, 17, c), api.ErrHandle)
	if m.Is(a) || !m.Is(c) || !m.Is(0) || !m.Is(5) || m.Handles() != 4 {
		t.Error("Drop has not stopped where it should:", m.Handles())
	}
	expect(t, "Drop of one twice", m.Drop(c, c), api.ErrHandle)
	if m.Is(c) || m.Collect() != 1 || m.Len() != 1 || m.Collect() != 0 {
		t.Error("a node without handles stays")
	}
}

func TestWhatIsNoHandle(t *testing.T) {
	m := newMan(t, 2, 10)
	h := handle(t, m)
	a := h(m.Var(0))
	b := h(m.Var(1))
	expect(t, "Drop", m.Drop(b), api.OK)
	for _, bad := range []int{-1, b, b + 1, math.MinInt, math.MaxInt} {
		fails(t, m, api.ErrHandle, func() (int, api.Errno) { return m.Copy(bad) })
		fails(t, m, api.ErrHandle, func() (int, api.Errno) { return m.Not(bad) })
		fails(t, m, api.ErrHandle, func() (int, api.Errno) { return m.Ite(bad, a, a) })
		fails(t, m, api.ErrHandle, func() (int, api.Errno) { return m.Ite(a, bad, 0) })
		fails(t, m, api.ErrHandle, func() (int, api.Errno) { return m.Ite(1, a, bad) })
		expect(t, "Drop", m.Drop(bad), api.ErrHandle)
		for _, l := range [][2]int{{bad, a}, {a, bad}, {bad, bad}} {
			if yes, e := m.Same(l[0], l[1]); yes || e != api.ErrHandle {
				t.Errorf("Same(%d, %d): %v, %d", l[0], l[1], yes, e)
			}
		}
		if yes, e := m.Eval(bad, nil); yes || e != api.ErrHandle {
			t.Errorf("Eval(%d): %v, %d", bad, yes, e)
		}
	}
	for _, v := range []int{-1, 2, 64, math.MinInt, math.MaxInt} {
		fails(t, m, api.ErrVar, func() (int, api.Errno) { return m.Var(v) })
	}
	if next := h(m.Copy(a)); next <= b {
		t.Error(next)
	}
}

func TestEval(t *testing.T) {
	m := newMan(t, 3, 30)
	h := handle(t, m)
	a, b, c := h(m.Var(0)), h(m.Var(1)), h(m.Var(2))
	f := h(m.Ite(a, b, h(m.Not(c))))
	for _, x := range []struct {
		l    []bool
		want bool
	}{{nil, true}, {[]bool{true}, false}, {[]bool{false}, true}, {[]bool{true, true}, true}, {[]bool{false, true, true}, false}, {[]bool{true, true, true, true, true}, true}, {[]bool{false, false, true, false, false}, false}} {
		if yes, e := m.Eval(f, x.l); yes != x.want || e != api.OK {
			t.Errorf("Eval(%v): %v, %d", x.l, yes, e)
		}
	}
}

func TestIteOfAllFunctions(t *testing.T) {
	m := newMan(t, 2, 4*16+4*30*4)
	h := handle(t, m)
	a, b := h(m.Var(0)), h(m.Var(1))
	var all []int // by table
	for i := range 16 {
		both := []int{0, 0}
		for j := range both {
			both[j] = h(m.Ite(b, i>>(2*j+1)&1, i>>(2*j)&1))
			both[j] = h(m.Ite(a, both[j], both[j]))
		}
		all = append(all, h(m.Ite(b, h(m.Ite(a, i>>3&1, i>>2&1)), h(m.Ite(a, i>>1&1, i&1)))))
		if table(t, m, all[i]) != uint64(i) {
			t.Fatalf("function %d has the table %d", i, table(t, m, all[i]))
		}
		expect(t, "Drop", m.Drop(both...), api.OK)
	}
	for i, f := range all {
		not := h(m.Not(f))
		same(t, m, not, all[15-i], true)
		expect(t, "Drop", m.Drop(not), api.OK)
		for j, g := range all {
			same(t, m, f, g, i == j)
			for k, l := range all {
				r := h(m.Ite(f, g, l))
				same(t, m, r, all[i&j|^i&15&k], true)
				expect(t, "Drop", m.Drop(r), api.OK)
			}
		}
	}
}

func TestRoom(t *testing.T) {
	m := newMan(t, 3, 2)
	h := handle(t, m)
	a, b := h(m.Var(0)), h(m.Var(1))
	fails(t, m, api.ErrRoom, func() (int, api.Errno) { return m.Var(2) })
	fails(t, m, api.ErrRoom, func() (int, api.Errno) { return m.Ite(a, b, 0) })
	if m.Len() != 2 || table(t, m, a) != 0xAA || table(t, m, b) != 0xCC {
		t.Error(m.Len(), table(t, m, a), table(t, m, b))
	}
	again := h(m.Var(1))
	same(t, m, again, b, true)
	expect(t, "Drop", m.Drop(a), api.OK)
	c := h(m.Var(2))
	if m.Len() != 2 || table(t, m, b) != 0xCC || table(t, m, c) != 0xF0 {
		t.Error("the dead node was not collected")
	}
	expect(t, "Drop", m.Drop(b, again), api.OK)
	expect(t, "Swap", m.Swap(1), api.OK)
	fails(t, m, api.ErrRoom, func() (int, api.Errno) {
		return m.Do(func(x *dd.Ctx) edge.Edge {
			return x.Mk(0, x.Edge(c), x.Mk(1, edge.Zero, edge.One))
		})
	})
	b = h(m.Var(1))
	if table(t, m, b) != 0xCC || table(t, m, c) != 0xF0 {
		t.Error(table(t, m, b), table(t, m, c))
	}
}

func TestRoomForWhatIsMissing(t *testing.T) {
	for room := 3; room <= 8; room++ {
		m := newMan(t, 5, room)
		h := handle(t, m)
		a, b := h(m.Var(0)), h(m.Var(1))
		for v := range 3 { // leaves dead nodes, up to the last room
			g, e := m.Var(v + 2)
			if e == api.OK {
				m.Drop(g)
			}
		}
		begun := 0
		f, e := m.Do(func(x *dd.Ctx) edge.Edge {
			begun++
			r := x.Mk(4, edge.Zero, edge.One)
			r = x.Mk(3, edge.Zero, r)
			r = x.Mk(2, edge.Zero, r)
			return x.Ite(x.Edge(a), r, edge.Zero)
		})
		// a and b stay; the four nodes of the result are missing, of which one may still be there as a dead node.
		if room < 6 {
			if f != 0 || e != api.ErrRoom || begun > 2 || m.Handles() != 4 {
				t.Errorf("room %d: %d, %d, begun %d times", room, f, e, begun)
			}
			continue
		}
		if e != api.OK || begun > 2 || table(t, m, f) != 0xAA000000&0xF0000000 {
			t.Errorf("room %d: %d, begun %d times, %x", room, e, begun, table(t, m, f))
		}
		if table(t, m, a) != 0xAAAAAAAA || table(t, m, b) != 0xCCCCCCCC {
			t.Errorf("room %d: the handles have changed", room)
		}
	}
}

func TestSwap(t *testing.T) {
	for vars := range 4 {
		m := newMan(t, vars, 50)
		for _, level := range []int{-1, vars - 1, vars, math.MinInt, math.MaxInt} {
			expect(t, "Swap", m.Swap(level), api.ErrRange)
		}
	}
	m := newMan(t, 3, 50)
	h := handle(t, m)
	a, b, c := h(m.Var(0)), h(m.Var(1)), h(m.Var(2))
	f := h(m.Ite(a, b, c))
	for _, level := range []int{0, 1, 0, 1, 1, 0} {
		order := m.Order()
		expect(t, "Swap", m.Swap(level), api.OK)
		order[level], order[level+1] = order[level+1], order[level]
		if !slices.Equal(m.Order(), order) {
			t.Error(m.Order(), order)
		}
		g := h(m.Ite(a, b, c))
		same(t, m, f, g, true)
		if table(t, m, f) != 0xD8 || table(t, m, a) != 0xAA || table(t, m, b) != 0xCC || table(t, m, c) != 0xF0 {
			t.Errorf("%x", table(t, m, f))
		}
		m.Drop(g)
	}
	tight := newMan(t, 3, 4)
	h = handle(t, tight)
	a, b, c = h(tight.Var(0)), h(tight.Var(1)), h(tight.Var(2))
	f = h(tight.Ite(a, b, c))
	tight.Drop(a)
	expect(t, "Swap without room", tight.Swap(0), api.ErrRoom)
	if tight.Order()[0] != 0 || table(t, tight, f) != 0xD8 {
		t.Error("a failed Swap has changed something")
	}
}

func TestNilManager(t *testing.T) {
	var m *dd.Man
	if m.Vars() != 0 || m.Room() != 0 || m.Len() != 0 || m.Handles() != 0 || m.Const(true) != 0 || m.Const(false) != 0 || m.Is(0) || m.Is(1) || m.Collect() != 0 || m.Waits() != 0 || len(m.Order()) != 0 {
		t.Error("a nil manager has something")
	}
	for range m.Each() {
		t.Error("a nil manager has a node")
	}
	one := func(x *dd.Ctx) edge.Edge { return edge.One }
	calls := []func() (int, api.Errno){
		func() (int, api.Errno) { return m.Var(-1) },
		func() (int, api.Errno) { return m.Copy(-1) },
		func() (int, api.Errno) { return m.Not(0) },
		func() (int, api.Errno) { return m.Ite(0, 1, -1) },
		func() (int, api.Errno) { return m.Do(one) },
		func() (int, api.Errno) { return m.Do(nil) },
	}
	for i, call := range calls {
		if h, e := call(); h != 0 || e != api.ErrNone {
			t.Errorf("call %d: %d, %d", i, h, e)
		}
	}
	for _, e := range []api.Errno{m.Drop(), m.Drop(0), m.Look(nil), m.Look(func(x *dd.Ctx) {}), m.Swap(0), m.Plan(), m.Plan(api.Event{})} {
		expect(t, "a nil manager", e, api.ErrNone)
	}
	if yes, e := m.Same(0, 0); yes || e != api.ErrNone {
		t.Error(yes, e)
	}
	if yes, e := m.Eval(1, nil); yes || e != api.ErrNone {
		t.Error(yes, e)
	}
}
