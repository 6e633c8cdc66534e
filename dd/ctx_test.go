package dd_test

import (
	"math"
	"testing"

	"voussoir/api"
	"voussoir/dd"
	"voussoir/edge"
)

// do returns a call of Do with op.
func do(m *dd.Man, op func(x *dd.Ctx) edge.Edge) func() (int, api.Errno) {
	return func() (int, api.Errno) { return m.Do(op) }
}

func TestDoAndLookRefuse(t *testing.T) {
	m := newMan(t, 2, 10)
	a := handle(t, m)(m.Var(0))
	fails(t, m, api.ErrArg, do(m, nil))
	expect(t, "Look", m.Look(nil), api.ErrArg)
	for _, x := range []struct {
		about string
		op    func(x *dd.Ctx) edge.Edge
		want  api.Errno
	}{
		{"Edge", func(x *dd.Ctx) edge.Edge { return x.Edge(7) }, api.ErrHandle},
		{"Edge", func(x *dd.Ctx) edge.Edge { return x.Edge(-1) }, api.ErrHandle},
		{"Mk", func(x *dd.Ctx) edge.Edge { return x.Mk(2, edge.Zero, edge.One) }, api.ErrVar},
		{"Mk", func(x *dd.Ctx) edge.Edge { return x.Mk(-1, 99, 99) }, api.ErrVar},
		{"Mk", func(x *dd.Ctx) edge.Edge { return x.Mk(0, -1, edge.One) }, api.ErrHandle},
		{"Mk", func(x *dd.Ctx) edge.Edge { return x.Mk(0, edge.One, 99) }, api.ErrHandle},
		{"Mk", func(x *dd.Ctx) edge.Edge { return x.Mk(0, 99, 99) }, api.ErrHandle},
		{"Mk", func(x *dd.Ctx) edge.Edge { return x.Mk(1, x.Edge(a), edge.One) }, api.ErrOrder},
		{"Mk", func(x *dd.Ctx) edge.Edge { return x.Mk(0, edge.One, x.Edge(a).Not()) }, api.ErrOrder},
		{"Ite", func(x *dd.Ctx) edge.Edge { return x.Ite(-1, edge.One, edge.One) }, api.ErrHandle},
		{"Ite", func(x *dd.Ctx) edge.Edge { return x.Ite(edge.One, edge.One, 99) }, api.ErrHandle},
		{"Ite", func(x *dd.Ctx) edge.Edge { return x.Ite(x.Edge(a), 98, edge.One) }, api.ErrHandle},
		{"Memo", func(x *dd.Ctx) edge.Edge { return x.Memo(100, 0, 0, 0, nil) }, api.ErrArg},
		{"the first error", func(x *dd.Ctx) edge.Edge { return x.Edge(int(x.Mk(2, edge.Zero, edge.One)) - 1) }, api.ErrVar},
	} {
		begun := 0
		fails(t, m, x.want, do(m, func(c *dd.Ctx) edge.Edge {
			begun++
			x.op(c)
			t.Error(x.about, "returns")
			return edge.One
		}))
		expect(t, x.about, m.Look(func(c *dd.Ctx) { x.op(c) }), x.want)
		if begun != 1 || table(t, m, a) != 0xA {
			t.Errorf("%s: begun %d times", x.about, begun)
		}
	}
	for _, bad := range []edge.Edge{-1, -2, 4, 5, 100, math.MinInt, math.MaxInt} {
		fails(t, m, api.ErrHandle, do(m, func(x *dd.Ctx) edge.Edge { return bad }))
	}
	expect(t, "Look", m.Look(func(x *dd.Ctx) {}), api.OK)
}

func TestDo(t *testing.T) {
	m := newMan(t, 3, 20)
	h := handle(t, m)
	a, b := h(m.Var(0)), h(m.Var(1))
	xor := func(x *dd.Ctx) edge.Edge { return x.Ite(x.Edge(a), x.Edge(b).Not(), x.Edge(b)) }
	f := h(m.Do(xor))
	g := h(m.Do(func(x *dd.Ctx) edge.Edge { return xor(x).Not() }))
	if f != 4 || g != 5 || table(t, m, f) != 0x66 || table(t, m, g) != 0x99 {
		t.Errorf("%d: %x, %d: %x", f, table(t, m, f), g, table(t, m, g))
	}
	one, zero := h(m.Do(func(x *dd.Ctx) edge.Edge { return edge.One })), h(m.Do(func(x *dd.Ctx) edge.Edge { return edge.Zero }))
	same(t, m, one, 1, true)
	same(t, m, zero, 0, true)
	if one != 6 || zero != 7 || m.Handles() != 8 {
		t.Error(one, zero, m.Handles())
	}
	m.Drop(f, g, a, b, one, zero)
	expect(t, "Look", m.Look(func(x *dd.Ctx) { x.Mk(2, edge.Zero, edge.One) }), api.OK)
	if m.Handles() != 2 || m.Len() == 0 || m.Collect() == 0 || m.Len() != 0 {
		t.Error("Look has left a handle, or made no node")
	}
}

func TestCtx(t *testing.T) {
	m := newMan(t, 3, 20)
	h := handle(t, m)
	a, b, c := h(m.Var(0)), h(m.Var(1)), h(m.Var(2))
	f := h(m.Ite(c, b, a))
	expect(t, "Swap", m.Swap(1), api.OK) // the order is 0 2 1
	expect(t, "Look", m.Look(func(x *dd.Ctx) {
		for v, level := range map[int]int{0: 0, 1: 2, 2: 1, -1: -1, 3: -1, math.MinInt: -1, math.MaxInt: -1} {
			if x.Level(v) != level {
				t.Errorf("Level(%d): %d", v, x.Level(v))
			}
		}
		if x.Edge(0) != edge.Zero || x.Edge(1) != edge.One || x.Edge(a) != x.Edge(a) || x.Edge(a) == x.Edge(b) {
			t.Error("Edge")
		}
		for _, l := range [][]int{{-1}, {-1, 0}, {-1, 1, 0, 1}, {0, a}, {0, 1, a, 1}, {2, c, b}, {2, b, c, 1}, {1, b}, {0, b, c, a}, {0, f, c}, {0, c, f}, {1, 0, b, 1}} {
			var edges []edge.Edge
			for _, k := range l[1:] {
				edges = append(edges, x.Edge(k).Not())
			}
			if top := x.Top(edges...); top != l[0] {
				t.Errorf("Top(%v): %d; want %d", l[1:], top, l[0])
			}
		}
	}), api.OK)
}

func TestSplit(t *testing.T) {
	m := newMan(t, 3, 20)
	h := handle(t, m)
	a, b, c := h(m.Var(0)), h(m.Var(1)), h(m.Var(2))
	f := h(m.Ite(a, b, c))
	expect(t, "Look", m.Look(func(x *dd.Ctx) {
		for _, s := range []struct {
			f, v, lo, hi int
		}{{f, 0, c, b}, {a, 0, 0, 1}, {b, 0, b, b}, {b, 1, 0, 1}, {c, 0, c, c}, {c, 1, c, c}, {0, 2, 0, 0}, {1, 0, 1, 1}} {
			for _, not := range []bool{false, true} {
				lo, hi := x.Split(x.Edge(s.f).Flip(not), s.v)
				if lo != x.Edge(s.lo).Flip(not) || hi != x.Edge(s.hi).Flip(not) {
					t.Errorf("Split(%d, %d), %v: %d, %d", s.f, s.v, not, lo, hi)
				}
			}
		}
	}), api.OK)
}

func TestMkOfACtx(t *testing.T) {
	m := newMan(t, 3, 20)
	h := handle(t, m)
	a, b, c := h(m.Var(0)), h(m.Var(1)), h(m.Var(2))
	want := h(m.Ite(a, b, c))
	f := h(m.Do(func(x *dd.Ctx) edge.Edge { return x.Mk(0, x.Edge(c), x.Edge(b)) }))
	g := h(m.Do(func(x *dd.Ctx) edge.Edge { return x.Mk(0, x.Edge(c).Not(), x.Edge(b).Not()) }))
	k := h(m.Do(func(x *dd.Ctx) edge.Edge { return x.Mk(0, x.Edge(c), x.Edge(c)) }))
	same(t, m, f, want, true)
	same(t, m, k, c, true)
	if table(t, m, f) != 0xD8 || table(t, m, g) != 0xFF&^0xD8 {
		t.Errorf("%x, %x", table(t, m, f), table(t, m, g))
	}
}

// remember makes m compute what Memo returns for op and the edges, and reports whether it called the function that returns r.
func remember(t *testing.T, m *dd.Man, op int, l [3]edge.Edge, r edge.Edge) (got edge.Edge, called bool) {
	t.Helper()
	expect(t, "Look", m.Look(func(x *dd.Ctx) {
		got = x.Memo(op, l[0], l[1], l[2], func() edge.Edge {
			called = true
			return r
		})
	}), api.OK)
	return got, called
}

// interrupt makes an event of that kind take place.
func interrupt(m *dd.Man, kind int) {
	m.Plan(api.Event{After: 1, Kind: kind})
	m.Look(func(x *dd.Ctx) { x.Mk(0, edge.Zero, edge.One) })
}

func TestMemo(t *testing.T) {
	for _, op := range []int{100, 101, math.MaxInt} {
		m := newMan(t, 3, 20)
		check := func(op int, l [3]edge.Edge, r, want edge.Edge, calls bool) {
			t.Helper()
			if got, called := remember(t, m, op, l, r); got != want || called != calls {
				t.Errorf("Memo(%d, %v): %d, called: %v", op, l, got, called)
			}
		}
		check(op, [3]edge.Edge{1, 0, 1}, edge.One, edge.One, true)
		check(op, [3]edge.Edge{1, 0, 1}, edge.Zero, edge.One, false)
		check(op, [3]edge.Edge{0, 1, 1}, edge.Zero, edge.Zero, true)
		check(op-1, [3]edge.Edge{0, 1, 1}, edge.One, edge.One, true)
		check(op, [3]edge.Edge{5, 0, 0}, edge.Zero, edge.Zero, true)
		for i, forget := range []func(){
			func() { m.Collect() },
			func() { m.Swap(0) },
			func() { m.Swap(1) },
			func() { interrupt(m, api.EvCollect) },
			func() { interrupt(m, api.EvSwap) },
			func() { interrupt(m, api.EvTurn) },
		} {
			check(op, [3]edge.Edge{0, 0, edge.Edge(i)}, edge.Zero, edge.Zero, true)
			check(op, [3]edge.Edge{0, 0, edge.Edge(i)}, edge.One, edge.Zero, false)
			forget()
			check(op, [3]edge.Edge{0, 0, edge.Edge(i)}, edge.One, edge.One, true)
		}
	}
}

func TestMemoOfTheManagersOwnNumbers(t *testing.T) {
	m := newMan(t, 3, 50)
	h := handle(t, m)
	a, b, c := h(m.Var(0)), h(m.Var(1)), h(m.Var(2))
	for op := -2; op < 100; op++ {
		expect(t, "Look", m.Look(func(x *dd.Ctx) {
			if r := x.Memo(op, x.Edge(a), x.Edge(b), x.Edge(c), func() edge.Edge { return edge.Zero }); r != edge.Zero {
				t.Error(op, r)
			}
		}), api.OK)
		f := h(m.Ite(a, b, c))
		if table(t, m, f) != 0xD8 {
			t.Fatalf("op %d spoils the results of Ite", op)
		}
		m.Drop(f)
	}
}

func TestMemoIsForgottenWhenNodesGo(t *testing.T) {
	m := newMan(t, 4, 3)
	h := handle(t, m)
	a := h(m.Var(0))
	conjunction := func(v int) func() (int, api.Errno) {
		return do(m, func(x *dd.Ctx) edge.Edge {
			return x.Ite(x.Edge(a), x.Mk(v, edge.Zero, edge.One), edge.Zero)
		})
	}
	for i := range 12 { // each needs the room of the one before
		v := 1 + i%3
		f := h(conjunction(v)())
		if table(t, m, f) != 0xAAAA&[]uint64{0, 0xCCCC, 0xF0F0, 0xFF00}[v] {
			t.Errorf("%d: %x", i, table(t, m, f))
		}
		m.Drop(f)
	}
}

func TestAnOperationThatPanics(t *testing.T) {
	m := newMan(t, 2, 10)
	h := handle(t, m)
	a := h(m.Var(0))
	for _, reason := range []any{"a reason", api.ErrVar} {
		func() {
			defer func() {
				if r := recover(); r != reason {
					t.Error("the panic of an operation is not passed on:", r)
				}
			}()
			m.Do(func(x *dd.Ctx) edge.Edge {
				x.Mk(1, edge.Zero, edge.One)
				panic(reason)
			})
		}()
	}
	if m.Handles() != 3 || table(t, m, a) != 0xA {
		t.Error("a panic has changed the manager")
	}
	b := h(m.Var(1))
	same(t, m, h(m.Ite(a, b, 0)), h(m.Ite(b, a, 0)), true)
}

// calmly calls f and recovers from any panic.
func calmly(f func()) {
	defer func() { recover() }()
	f()
}

func TestAnOperationThatRecovers(t *testing.T) {
	m := newMan(t, 2, 4)
	h := handle(t, m)
	a := h(m.Var(0))
	for want, wrong := range map[api.Errno]func(x *dd.Ctx){
		api.ErrVar:    func(x *dd.Ctx) { x.Mk(2, edge.Zero, edge.One) },
		api.ErrHandle: func(x *dd.Ctx) { x.Edge(9) },
		api.ErrOrder:  func(x *dd.Ctx) { x.Mk(0, x.Edge(a), edge.One) },
	} {
		fails(t, m, want, do(m, func(x *dd.Ctx) edge.Edge {
			calmly(func() { wrong(x) })
			return edge.One
		}))
	}
	m.Plan(api.Event{After: 1, Kind: api.EvTurn}, api.Event{After: 1, Kind: api.EvCollect})
	begun := 0
	f := h(m.Do(func(x *dd.Ctx) edge.Edge {
		begun++
		calmly(func() { x.Mk(1, edge.Zero, edge.One) })
		calmly(func() { x.Mk(1, edge.One, edge.Zero) })
		return x.Edge(a)
	}))
	same(t, m, f, a, true)
	if begun != 3 || m.Waits() != 0 || m.Order()[0] != 1 {
		t.Error(begun, m.Waits(), m.Order())
	}
}

func TestOperationsInsideOfOperations(t *testing.T) {
	m := newMan(t, 3, 40)
	h := handle(t, m)
	a, b, c := h(m.Var(0)), h(m.Var(1)), h(m.Var(2))
	for kind := api.EvCollect; kind <= api.EvTurn; kind++ {
		for after := 1; after < 8; after++ {
			m.Plan(api.Event{After: after, Kind: kind}, api.Event{After: after, Kind: kind})
			f := h(m.Do(func(x *dd.Ctx) edge.Edge {
				or := x.Ite(x.Edge(a), edge.One, x.Edge(b)) // may be a dead node when the inner operation is interrupted
				and := h(m.Ite(a, c, 0))
				fails(t, m, api.ErrHandle, func() (int, api.Errno) { return m.Ite(a, 0, -1) })
				fails(t, m, api.ErrVar, do(m, func(y *dd.Ctx) edge.Edge { return y.Mk(3, or, edge.One) }))
				r := x.Ite(x.Edge(and), edge.Zero, or)
				m.Drop(and)
				return x.Ite(x.Edge(b), r, x.Ite(or, r, edge.One))
			}))
			if table(t, m, f) != 0x5F&0xCC|0x0A&0x33|0x11 {
				t.Fatalf("kind %d after %d: %x", kind, after, table(t, m, f))
			}
			m.Drop(f)
		}
	}
}

func TestAnOuterOperationInsideOfAnother(t *testing.T) {
	m, other := newMan(t, 2, 20), newMan(t, 2, 20)
	a := handle(t, m)(m.Var(0))
	for _, man := range []*dd.Man{m, other} {
		fails(t, m, api.ErrVar, do(m, func(x *dd.Ctx) edge.Edge {
			man.Look(func(y *dd.Ctx) { x.Mk(7, edge.Zero, edge.One) })
			t.Error("an operation goes on after an error")
			return edge.One
		}))
		m.Plan(api.Event{After: 2, Kind: api.EvTurn})
		begun := 0
		f := handle(t, m)(m.Do(func(x *dd.Ctx) (r edge.Edge) {
			begun++
			man.Look(func(y *dd.Ctx) {
				for range 3 {
					r = x.Mk(0, edge.Zero, edge.One)
				}
			})
			return r
		}))
		same(t, m, f, a, true)
		if begun != 2 || m.Waits() != 0 {
			t.Error(begun, m.Waits())
		}
	}
}

func TestRoomInsideOfAnOperation(t *testing.T) {
	m := newMan(t, 4, 3)
	h := handle(t, m)
	a := h(m.Var(0))
	m.Drop(h(m.Var(1)), h(m.Var(2)))
	f := h(m.Do(func(x *dd.Ctx) edge.Edge {
		d, e := m.Var(3)
		expect(t, "Var", e, api.OK)
		fails(t, m, api.ErrRoom, do(m, func(y *dd.Ctx) edge.Edge {
			return y.Mk(0, y.Mk(1, edge.Zero, edge.One), y.Mk(2, edge.Zero, edge.One))
		}))
		r := x.Edge(d)
		m.Drop(d)
		return x.Ite(r, edge.One, r)
	}))
	if table(t, m, f) != 0xFF00 || table(t, m, a) != 0xAAAA {
		t.Errorf("%x", table(t, m, f))
	}
}

func TestACtxThatIsKept(t *testing.T) {
	m := newMan(t, 2, 10)
	a := handle(t, m)(m.Var(0))
	var kept, none *dd.Ctx
	m.Look(func(x *dd.Ctx) { kept = x })
	for _, x := range []*dd.Ctx{kept, none, new(dd.Ctx)} {
		lo, hi := x.Split(2, 0)
		if x.Edge(a) != 0 || x.Edge(-1) != 0 || x.Level(0) != -1 || x.Top(2) != -1 || lo != 0 || hi != 0 || x.Mk(1, edge.Zero, edge.One) != 0 || x.Ite(2, 3, 4) != 0 {
			t.Error("a Ctx is of use when it should not be")
		}
		if x.Memo(100, 0, 0, 0, func() edge.Edge { return edge.Zero }) != 0 || x.Memo(100, 0, 0, 0, nil) != 0 {
			t.Error("a Ctx remembers when it should not")
		}
	}
	if m.Len() != 1 || m.Handles() != 3 {
		t.Error("a Ctx that was kept has changed the manager")
	}
}
