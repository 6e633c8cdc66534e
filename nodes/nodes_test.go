package nodes_test

import (
	"math"
	"slices"
	"testing"

	"voussoir/api"
	"voussoir/edge"
	"voussoir/nodes"
)

func newStore(t *testing.T, vars, room int) *nodes.Store {
	t.Helper()
	s, e := nodes.New(vars, room)
	if s == nil || e != api.OK {
		t.Fatalf("New(%d, %d): %d", vars, room, e)
	}
	return s
}

func mk(t *testing.T, s *nodes.Store, v int, lo, hi edge.Edge) edge.Edge {
	t.Helper()
	f, e := s.Mk(v, lo, hi)
	if e != api.OK || !s.Is(f) {
		t.Fatalf("Mk(%d, %d, %d): %d, %d", v, lo, hi, f, e)
	}
	return f
}

func refuses(t *testing.T, s *nodes.Store, v int, lo, hi edge.Edge, want api.Errno) {
	t.Helper()
	before := slices.Collect(s.Each())
	if f, e := s.Mk(v, lo, hi); f != 0 || e != want {
		t.Errorf("Mk(%d, %d, %d): %d, %d; want %d", v, lo, hi, f, e, want)
	}
	if !slices.Equal(before, slices.Collect(s.Each())) {
		t.Errorf("Mk(%d, %d, %d) changed the store", v, lo, hi)
	}
}

func expect(t *testing.T, about string, got, want api.Errno) {
	t.Helper()
	if got != want {
		t.Errorf("%s: %d; want %d", about, got, want)
	}
}

// counts checks how many nodes there are, and how many of them are dead.
func counts(t *testing.T, s *nodes.Store, all, dead int) {
	t.Helper()
	if s.Len() != all || s.Dead() != dead {
		t.Errorf("%d nodes, %d dead; want %d, %d", s.Len(), s.Dead(), all, dead)
	}
}

func TestNew(t *testing.T) {
	for _, x := range [][2]int{{-1, 1}, {65, 1}, {math.MinInt, 1}, {math.MaxInt, 1}, {0, 0}, {0, -1}, {64, api.MaxRoom + 1}, {2, math.MinInt}, {2, math.MaxInt}, {-1, 0}} {
		if s, e := nodes.New(x[0], x[1]); s != nil || e != api.ErrRange {
			t.Errorf("New(%d, %d): %d", x[0], x[1], e)
		}
	}
	for _, x := range [][2]int{{0, 1}, {1, 1}, {64, 1}, {64, api.MaxRoom}, {3, 5}} {
		s := newStore(t, x[0], x[1])
		if s.Vars() != x[0] || s.Room() != x[1] || len(slices.Collect(s.Each())) != 0 {
			t.Errorf("New(%d, %d): %d, %d", x[0], x[1], s.Vars(), s.Room())
		}
		counts(t, s, 0, 0)
		order := s.Order()
		for v := range x[0] {
			if order[v] != v || s.Level(v) != v {
				t.Errorf("variable %d is at level %d", v, s.Level(v))
			}
		}
		for _, v := range []int{-1, x[0], 64, math.MinInt, math.MaxInt} {
			if s.Level(v) != -1 {
				t.Errorf("Level(%d): %d", v, s.Level(v))
			}
			refuses(t, s, v, edge.One, edge.One, api.ErrVar)
		}
		if len(order) != x[0] {
			t.Error(order)
		}
	}
}

func TestTheExample(t *testing.T) {
	s := newStore(t, 2, 9)
	x := mk(t, s, 1, edge.Zero, edge.One)
	y := mk(t, s, 0, edge.Zero, x)
	counts(t, s, 2, 2)
	expect(t, "Hold", s.Hold(y), api.OK)
	counts(t, s, 2, 0)
	mk(t, s, 0, x, edge.Zero)
	refuses(t, s, 1, y, edge.One, api.ErrOrder)
	expect(t, "Swap", s.Swap(0), api.OK)
	if !slices.Equal(s.Order(), []int{1, 0}) || s.Level(0) != 1 || s.Level(1) != 0 {
		t.Error(s.Order())
	}
	for i, want := range []bool{false, false, false, true} {
		if value(s, y, []bool{i&1 == 1, i&2 == 2}) != want {
			t.Errorf("y is wrong under assignment %d", i)
		}
	}
	if mk(t, s, 0, edge.One, edge.Zero) != mk(t, s, 0, edge.Zero, edge.One).Not() {
		t.Error("a function and its complement do not share a node")
	}
}

// value returns the value of f under an assignment.
func value(s *nodes.Store, f edge.Edge, l []bool) bool {
	for {
		v, lo, hi, ok := s.At(f)
		switch {
		case !ok:
			return f == edge.One
		case l[v]:
			f = hi
		default:
			f = lo
		}
	}
}

func TestMkRefuses(t *testing.T) {
	s := newStore(t, 3, 20)
	x2 := mk(t, s, 2, edge.Zero, edge.One)
	x1 := mk(t, s, 1, edge.Zero, edge.One)
	x0 := mk(t, s, 0, x1, x2.Not())
	for _, bad := range []edge.Edge{-1, -2, math.MinInt, math.MaxInt, 8, 9, 40, 1 << 40} {
		refuses(t, s, -1, bad, x1, api.ErrVar)
		refuses(t, s, 3, x1, bad, api.ErrVar)
		refuses(t, s, 0, bad, x1, api.ErrHandle)
		refuses(t, s, 0, x1, bad, api.ErrHandle)
		refuses(t, s, 2, x0, bad, api.ErrHandle)
		refuses(t, s, 2, bad, x0, api.ErrHandle)
		refuses(t, s, 0, bad, bad, api.ErrHandle)
	}
	for v, l := range [][]edge.Edge{{x0}, {x0, x1}, {x0, x1, x2}} {
		for _, f := range l {
			for _, g := range []edge.Edge{f, f.Not(), edge.One, edge.Zero, x0, x2} {
				refuses(t, s, v, f, g, api.ErrOrder)
				refuses(t, s, v, g, f.Not(), api.ErrOrder)
			}
		}
	}
	for _, f := range []edge.Edge{edge.One, edge.Zero, x1, x1.Not(), x2, x2.Not()} {
		if g := mk(t, s, 0, f, f); g != f {
			t.Errorf("Mk of equal edges %d: %d", f, g)
		}
	}
	counts(t, s, 3, 3)
}

func TestMkFindsWhatThereIs(t *testing.T) {
	s := newStore(t, 2, 4)
	x := mk(t, s, 1, edge.Zero, edge.One)
	if x != edge.Of(1, false) || mk(t, s, 1, edge.One, edge.Zero) != x.Not() || mk(t, s, 1, edge.Zero, edge.One) != x {
		t.Error(x)
	}
	y := mk(t, s, 0, x, edge.One)
	z := mk(t, s, 0, x, edge.Zero)
	if y.Neg() || !z.Neg() || y.Node() == z.Node() || mk(t, s, 0, x.Not(), edge.Zero) != y.Not() || mk(t, s, 0, x.Not(), edge.One) != z.Not() {
		t.Error(y, z)
	}
	counts(t, s, 3, 3)
	mk(t, s, 0, edge.Zero, edge.One)
	refuses(t, s, 0, x, x.Not(), api.ErrRoom)
	refuses(t, s, 0, edge.One, x, api.ErrRoom)
	refuses(t, s, 1, x, edge.One, api.ErrOrder)
	if mk(t, s, 0, x, edge.One) != y || mk(t, s, 0, x, edge.Zero) != z || mk(t, s, 0, x, x) != x {
		t.Error("a full store does not find what there is")
	}
}

func TestMkInAFullStore(t *testing.T) {
	s := newStore(t, 2, 1)
	x := mk(t, s, 1, edge.Zero, edge.One)
	refuses(t, s, 0, edge.Zero, edge.One, api.ErrRoom)
	refuses(t, s, 0, edge.Zero, x, api.ErrRoom)
	if mk(t, s, 1, edge.One, edge.Zero) != x.Not() {
		t.Error("the only node is not found")
	}
	counts(t, s, 1, 1)
	if n := s.Collect(); n != 1 || s.Is(x) {
		t.Error(n)
	}
	counts(t, s, 0, 0)
	refuses(t, s, 0, edge.Zero, x, api.ErrHandle)
	y := mk(t, s, 0, edge.Zero, edge.One)
	expect(t, "Hold", s.Hold(y), api.OK)
	if s.Collect() != 0 || !s.Is(y) {
		t.Error("a held node was collected")
	}
	expect(t, "Swap", s.Swap(0), api.OK)
	refuses(t, s, 1, edge.Zero, edge.One, api.ErrRoom)
	refuses(t, s, 1, edge.Zero, y, api.ErrRoom)
}

func TestAt(t *testing.T) {
	s := newStore(t, 3, 9)
	x := mk(t, s, 2, edge.Zero, edge.One)
	y := mk(t, s, 1, x.Not(), edge.One)
	at := func(f edge.Edge, v int, lo, hi edge.Edge, ok bool) {
		t.Helper()
		if w, l, h, found := s.At(f); w != v || l != lo || h != hi || found != ok {
			t.Errorf("At(%d): %d, %d, %d, %v", f, w, l, h, found)
		}
	}
	at(x, 2, edge.Zero, edge.One, true)
	at(x.Not(), 2, edge.One, edge.Zero, true)
	at(y, 1, x.Not(), edge.One, true)
	at(y.Not(), 1, x, edge.Zero, true)
	for _, f := range []edge.Edge{edge.One, edge.Zero, -1, -2, math.MinInt, math.MaxInt, 6, 7, 20} {
		at(f, -1, 0, 0, false)
		if s.Is(f) != f.Const() || s.Held(f) != 0 {
			t.Errorf("Is(%d): %v", f, s.Is(f))
		}
	}
}

func TestHoldAndDrop(t *testing.T) {
	s := newStore(t, 3, 9)
	x := mk(t, s, 2, edge.Zero, edge.One)
	y := mk(t, s, 1, edge.Zero, x)
	z := mk(t, s, 0, y.Not(), x)
	counts(t, s, 3, 3)
	for _, f := range []edge.Edge{-1, -2, math.MinInt, math.MaxInt, 8, 9, 100} {
		expect(t, "Hold of an invalid edge", s.Hold(f), api.ErrHandle)
		expect(t, "Drop of an invalid edge", s.Drop(f), api.ErrHandle)
	}
	for _, f := range []edge.Edge{edge.One, edge.Zero} {
		expect(t, "Drop of a constant", s.Drop(f), api.OK)
		expect(t, "Hold of a constant", s.Hold(f), api.OK)
		if s.Held(f) != 0 {
			t.Error("a constant is held")
		}
	}
	expect(t, "Drop of what is not held", s.Drop(x), api.ErrNone)
	expect(t, "Hold", s.Hold(y), api.OK)
	counts(t, s, 3, 1)
	expect(t, "Drop of what is live through another node", s.Drop(x), api.ErrNone)
	expect(t, "Hold of the complement", s.Hold(y.Not()), api.OK)
	if s.Held(y) != 2 || s.Held(y.Not()) != 2 || s.Held(x) != 0 || s.Held(z) != 0 {
		t.Error(s.Held(y), s.Held(x), s.Held(z))
	}
	expect(t, "Drop", s.Drop(y), api.OK)
	counts(t, s, 3, 1)
	expect(t, "Hold", s.Hold(z), api.OK)
	counts(t, s, 3, 0)
	expect(t, "Drop of the complement", s.Drop(y.Not()), api.OK)
	expect(t, "Drop once more", s.Drop(y), api.ErrNone)
	counts(t, s, 3, 0)
	expect(t, "Drop", s.Drop(z.Not()), api.OK)
	counts(t, s, 3, 3)
	expect(t, "Hold of a dead node", s.Hold(x), api.OK)
	if n := s.Collect(); n != 2 || s.Is(y) || s.Is(z.Not()) || !s.Is(x) || s.Held(x) != 1 {
		t.Error(n)
	}
	if s.Collect() != 0 {
		t.Error("a Collect after a Collect removes something")
	}
	counts(t, s, 1, 0)
	expect(t, "Hold of a collected node", s.Hold(y), api.ErrHandle)
	expect(t, "Drop of a collected node", s.Drop(z), api.ErrHandle)
	again := mk(t, s, 1, edge.Zero, x)
	if s.Held(again) != 0 || s.Dead() != 1 {
		t.Error("a new node has the references of an old one")
	}
}

func TestEach(t *testing.T) {
	s := newStore(t, 3, 9)
	x := mk(t, s, 2, edge.Zero, edge.One)
	y := mk(t, s, 1, x.Not(), edge.One)
	z := mk(t, s, 0, y.Not(), x)
	s.Hold(x)
	s.Hold(y)
	s.Hold(y.Not())
	s.Hold(edge.One)
	want := []api.Node{{ID: 1, Var: 2, Lo: 1, Hi: 0, Refs: 1}, {ID: 2, Var: 1, Lo: int(x.Not()), Hi: 0, Refs: 2}, {ID: 3, Var: 0, Lo: int(y.Not()), Hi: int(x)}}
	if z.Node() != 3 || !slices.Equal(slices.Collect(s.Each()), want) {
		t.Error(slices.Collect(s.Each()))
	}
	for n := range s.Each() {
		if n.ID == 2 {
			break
		}
	}
	late := s.Each()
	s.Drop(x)
	s.Collect()
	want = []api.Node{{ID: 1, Var: 2, Lo: 1, Hi: 0}, want[1]}
	if !slices.Equal(slices.Collect(late), want) {
		t.Error("the iterator does not tell the state when the range begins")
	}
}

func TestSwapRefuses(t *testing.T) {
	for vars := range 4 {
		s := newStore(t, vars, 9)
		for v := range vars {
			mk(t, s, v, edge.Zero, edge.One)
		}
		for _, level := range []int{-1, vars - 1, vars, vars + 1, math.MinInt, math.MaxInt, math.MaxInt - 1, -2} {
			expect(t, "Swap", s.Swap(level), api.ErrRange)
			counts(t, s, vars, vars)
		}
	}
}

func TestSwapAtBothEnds(t *testing.T) {
	s := newStore(t, 64, 10)
	top, bottom := mk(t, s, 0, edge.Zero, edge.One), mk(t, s, 63, edge.Zero, edge.One)
	both := mk(t, s, 0, bottom, edge.One)
	for _, f := range []edge.Edge{top, bottom, both} {
		s.Hold(f)
	}
	expect(t, "the first", s.Swap(0), api.OK)
	expect(t, "the last", s.Swap(62), api.OK)
	if s.Level(0) != 1 || s.Level(1) != 0 || s.Level(63) != 62 || s.Level(62) != 63 || s.Level(2) != 2 {
		t.Error(s.Order())
	}
	for level := 1; level < 62; level++ {
		expect(t, "down", s.Swap(level), api.OK)
	}
	expect(t, "at last", s.Swap(62), api.OK)
	if s.Level(0) != 63 {
		t.Error(s.Order())
	}
	l := make([]bool, 64)
	for i := range 4 {
		l[0], l[63] = i&1 == 1, i&2 == 2
		if value(s, top, l) != l[0] || value(s, bottom, l) != l[63] || value(s, both, l) != (l[0] || l[63]) {
			t.Errorf("wrong under %d", i)
		}
	}
	if v, _, _, _ := s.At(both); v != 63 {
		t.Error(v)
	}
}

func TestSwapWithoutRoom(t *testing.T) {
	for room := 3; room <= 12; room++ {
		s := newStore(t, 3, room)
		// x0 ? x2 : x1 needs a node of variable 0 more when variable 1 is put above it, and both x1 and x2 stay.
		x2 := mk(t, s, 2, edge.Zero, edge.One)
		x1 := mk(t, s, 1, edge.Zero, edge.One)
		f := mk(t, s, 0, x1, x2)
		for _, g := range []edge.Edge{x1, x2, f} {
			s.Hold(g)
		}
		if room > 3 {
			mk(t, s, 1, x2, edge.Zero) // a dead one
		}
		before := slices.Collect(s.Each())[:3]
		e := s.Swap(0)
		if room < 5 {
			expect(t, "Swap without room", e, api.ErrRoom)
			counts(t, s, 3, 0)
			if !slices.Equal(slices.Collect(s.Each()), before) || !slices.Equal(s.Order(), []int{0, 1, 2}) || s.Level(1) != 1 {
				t.Errorf("a failed Swap has changed the store: %v", slices.Collect(s.Each()))
			}
			mk(t, s, 0, x1, x2)
			continue
		}
		expect(t, "Swap with room", e, api.OK)
		counts(t, s, 5, 0)
	}
}

func TestSwapKeepsWhatWasLive(t *testing.T) {
	s := newStore(t, 2, 9)
	x := mk(t, s, 1, edge.Zero, edge.One)
	y := mk(t, s, 0, edge.Zero, x)
	mk(t, s, 0, x, edge.One)
	s.Hold(y)
	expect(t, "Swap", s.Swap(0), api.OK)
	counts(t, s, 3, 1) // x, which has died, and not the one that was dead before
	if v, lo, hi, ok := s.At(x); v != 1 || lo != edge.Zero || hi != edge.One || !ok {
		t.Error("an edge to a node that was live has lost its value")
	}
	if v, lo, hi, ok := s.At(y); v != 1 || lo != edge.Zero || hi != mk(t, s, 0, edge.Zero, edge.One) || !ok {
		t.Error(v, lo, hi, ok)
	}
	refuses(t, s, 0, x, edge.One, api.ErrOrder)
	if mk(t, s, 1, edge.Zero, edge.One) != x {
		t.Error("a node that has died is not found")
	}
}

func TestNil(t *testing.T) {
	var s *nodes.Store
	if s.Vars() != 0 || s.Room() != 0 || s.Len() != 0 || s.Level(0) != -1 || len(s.Order()) != 0 || s.Dead() != 0 || s.Collect() != 0 {
		t.Error("a number")
	}
	for _, f := range []edge.Edge{edge.One, edge.Zero, 2, -1} {
		if r, e := s.Mk(0, f, edge.One); r != 0 || e != api.ErrNone {
			t.Error(r, e)
		}
		if v, lo, hi, ok := s.At(f); v != -1 || lo != 0 || hi != 0 || ok || s.Is(f) || s.Held(f) != 0 {
			t.Error("an edge", f)
		}
		expect(t, "Hold", s.Hold(f), api.ErrNone)
		expect(t, "Drop", s.Drop(f), api.ErrNone)
	}
	expect(t, "Swap", s.Swap(0), api.ErrNone)
	expect(t, "Swap", s.Swap(-1), api.ErrNone)
	for n := range s.Each() {
		t.Error(n)
	}
}

func TestOrderIsACopy(t *testing.T) {
	s := newStore(t, 3, 9)
	l := s.Order()
	l[0], l[2] = l[2], l[0]
	if !slices.Equal(s.Order(), []int{0, 1, 2}) || s.Level(2) != 2 {
		t.Error(s.Order())
	}
	l = s.Order()
	s.Swap(1)
	if !slices.Equal(l, []int{0, 1, 2}) || !slices.Equal(s.Order(), []int{0, 2, 1}) {
		t.Error(l, s.Order())
	}
}

func TestTheGreatestStore(t *testing.T) {
	s := newStore(t, 64, api.MaxRoom)
	// Every edge to a node of the lower variables is a Kid of new nodes, until the store is full.
	l := []edge.Edge{edge.One, edge.Zero}
	made := 0
	for v := 63; v >= 0 && made < api.MaxRoom; v-- {
		below := l
		for i, lo := range below {
			for _, hi := range below[i+1:] {
				if made == api.MaxRoom {
					break
				}
				f := mk(t, s, v, lo, hi)
				if s.Len() > made {
					made++
					l = append(l, f)
				}
			}
		}
	}
	counts(t, s, api.MaxRoom, api.MaxRoom)
	refuses(t, s, 0, l[len(l)-1], edge.One, api.ErrRoom)
	f := l[len(l)-1]
	s.Hold(f)
	live := s.Len() - s.Dead()
	if n := s.Collect(); n != api.MaxRoom-live || s.Len() != live || !s.Is(f) {
		t.Error(n, live)
	}
	s.Drop(f)
	if n := s.Collect(); n != live || s.Len() != 0 {
		t.Error(n, live)
	}
}
