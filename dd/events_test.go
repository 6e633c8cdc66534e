package dd_test

import (
	"math"
	"slices"
	"testing"

	"voussoir/api"
	"voussoir/dd"
	"voussoir/edge"
)

// collections returns events that collect after these numbers of calls.
func collections(after ...int) (l []api.Event) {
	for _, n := range after {
		l = append(l, api.Event{After: n, Kind: api.EvCollect})
	}
	return l
}

// starts returns how often an operation is begun that calls Mk that many times.
func starts(t *testing.T, m *dd.Man, calls int) (begun int) {
	t.Helper()
	expect(t, "Look", m.Look(func(x *dd.Ctx) {
		begun++
		for range calls {
			x.Mk(0, edge.Zero, edge.One)
		}
	}), api.OK)
	return begun
}

func TestPlanRefuses(t *testing.T) {
	m := newMan(t, 3, 10)
	right := api.Event{After: 1, Kind: api.EvSwap, Level: 1}
	for _, x := range []struct {
		event api.Event
		want  api.Errno
	}{
		{api.Event{}, api.ErrKind},
		{api.Event{After: 1, Kind: 4}, api.ErrKind},
		{api.Event{After: 0, Kind: -1}, api.ErrKind},
		{api.Event{After: 1, Kind: math.MaxInt}, api.ErrKind},
		{api.Event{After: 0, Kind: 0, Level: 9}, api.ErrKind},
		{api.Event{After: 0, Kind: api.EvCollect}, api.ErrRange},
		{api.Event{After: 0, Kind: api.EvSwap}, api.ErrRange},
		{api.Event{After: 0, Kind: api.EvTurn}, api.ErrRange},
		{api.Event{After: math.MinInt, Kind: api.EvTurn}, api.ErrRange},
		{api.Event{After: 1, Kind: api.EvSwap, Level: -1}, api.ErrRange},
		{api.Event{After: 1, Kind: api.EvSwap, Level: 2}, api.ErrRange},
		{api.Event{After: 1, Kind: api.EvSwap, Level: 3}, api.ErrRange},
		{api.Event{After: 1, Kind: api.EvSwap, Level: math.MaxInt}, api.ErrRange},
		{api.Event{After: 1, Kind: api.EvSwap, Level: math.MinInt}, api.ErrRange},
	} {
		expect(t, "Plan", m.Plan(x.event), x.want)
		expect(t, "Plan", m.Plan(right, x.event, api.Event{}), x.want)
		if m.Waits() != 0 {
			t.Error("a refused Plan has added an event")
		}
	}
	expect(t, "Plan", m.Plan(right, api.Event{After: math.MaxInt, Kind: api.EvCollect, Level: -5}, api.Event{After: 1, Kind: api.EvTurn, Level: 77}), api.OK)
	if m.Waits() != 3 {
		t.Error(m.Waits())
	}
	for vars := range 2 {
		few := newMan(t, vars, 10)
		for level := -1; level < 2; level++ {
			expect(t, "Plan", few.Plan(api.Event{After: 1, Kind: api.EvSwap, Level: level}), api.ErrRange)
		}
		expect(t, "Plan", few.Plan(api.Event{After: 1, Kind: api.EvTurn}), api.OK)
	}
}

func TestHowManyEventsWait(t *testing.T) {
	m := newMan(t, 1, 10)
	many := slices.Repeat(collections(1), api.MaxEvents)
	expect(t, "Plan", m.Plan(append(many, api.Event{})...), api.ErrMany)
	expect(t, "Plan", m.Plan(), api.OK)
	expect(t, "Plan", m.Plan(many[1:]...), api.OK)
	expect(t, "Plan", m.Plan(many[:2]...), api.ErrMany)
	expect(t, "Plan", m.Plan(api.Event{}, api.Event{}), api.ErrMany)
	expect(t, "Plan", m.Plan(api.Event{}), api.ErrKind)
	if m.Waits() != 255 {
		t.Error(m.Waits())
	}
	expect(t, "Plan", m.Plan(many[0]), api.OK)
	expect(t, "Plan", m.Plan(), api.OK)
	expect(t, "Plan", m.Plan(many[0]), api.ErrMany)
	many[0].After = 100
	if begun := starts(t, m, 1); begun != 257 || m.Waits() != 0 {
		t.Error(begun, m.Waits())
	}
	expect(t, "Plan", m.Plan(many[1:]...), api.OK)
}

func TestWhenEventsTakePlace(t *testing.T) {
	for _, x := range []struct {
		after  []int
		calls  int // of each operation
		starts []int
	}{
		{[]int{2, 3}, 4, []int{3, 1}},
		{[]int{1}, 1, []int{2, 1}},
		{[]int{1}, 0, []int{1, 1}},
		{[]int{4}, 4, []int{2, 1}},
		{[]int{5}, 4, []int{1, 2, 1}},
		{[]int{9}, 4, []int{1, 1, 2, 1}},
		{[]int{5, 5}, 4, []int{1, 2, 2, 1}},
		{[]int{5, 4}, 4, []int{1, 3, 1}},
		{[]int{1, 1, 1}, 2, []int{4, 1}},
		{[]int{3, 1, 3}, 2, []int{1, 3, 2, 1}},
		{[]int{4, 4, 4}, 4, []int{4, 1}},
	} {
		m := newMan(t, 2, 10)
		starts(t, m, 7) // these calls do not count
		expect(t, "Plan", m.Plan(collections(x.after...)...), api.OK)
		for i, want := range x.starts {
			if begun := starts(t, m, x.calls); begun != want {
				t.Errorf("after %v, operation %d of %d calls: begun %d times; want %d", x.after, i, x.calls, begun, want)
			}
		}
		if m.Waits() != 0 && x.calls > 0 {
			t.Errorf("after %v: %d events wait", x.after, m.Waits())
		}
	}
}

func TestPlanAndTheCalls(t *testing.T) {
	m := newMan(t, 2, 10)
	m.Plan(collections(5)...)
	starts(t, m, 3)
	m.Plan(collections(2)...) // which does not find an empty queue
	expect(t, "Plan", m.Plan(api.Event{}), api.ErrKind)
	if begun := starts(t, m, 2); begun != 3 || m.Waits() != 0 {
		t.Error(begun, m.Waits())
	}
	starts(t, m, 3)
	m.Plan()
	m.Plan(collections(4)...) // which finds one
	if starts(t, m, 3) != 1 || starts(t, m, 1) != 2 {
		t.Error("calls count that were made when the queue was empty")
	}
}

func TestWhatCountsAsACall(t *testing.T) {
	m := newMan(t, 2, 10)
	h := handle(t, m)
	m.Plan(collections(4)...)
	a, b := h(m.Var(0)), h(m.Var(1))
	m.Drop(h(m.Copy(a)), h(m.Not(b)))
	m.Eval(a, nil)
	m.Same(a, b)
	begun := 0
	wrong := func(x *dd.Ctx) edge.Edge {
		begun++
		x.Mk(0, edge.One, edge.One)          // no node
		x.Mk(0, edge.Zero, edge.One)         // no new one
		x.Mk(1, x.Edge(b), x.Edge(b))        // which fails
		return x.Mk(0, edge.Zero, x.Edge(b)) // which is not reached
	}
	fails(t, m, api.ErrOrder, do(m, wrong))
	if begun != 1 || m.Waits() != 1 {
		t.Error(begun, m.Waits())
	}
	if starts(t, m, 0) != 1 || starts(t, m, 1) != 2 || m.Waits() != 0 {
		t.Error(m.Waits())
	}
	m.Plan(collections(3)...)
	fails(t, m, api.ErrOrder, do(m, wrong))
	if begun != 3 || m.Waits() != 0 {
		t.Error("a call that fails does not count:", begun, m.Waits())
	}
}

func TestEventsDuringIte(t *testing.T) {
	m := newMan(t, 3, 50)
	h := handle(t, m)
	a, b, c := h(m.Var(0)), h(m.Var(1)), h(m.Var(2))
	m.Plan(api.Event{After: 1, Kind: api.EvTurn}, api.Event{After: 1, Kind: api.EvSwap, Level: 1})
	f := h(m.Ite(a, b, c))
	if m.Waits() != 0 || !slices.Equal(m.Order(), []int{2, 0, 1}) || table(t, m, f) != 0xD8 {
		t.Errorf("%d, %v, %x", m.Waits(), m.Order(), table(t, m, f))
	}
}

func TestEvents(t *testing.T) {
	for vars := range 7 {
		for _, x := range []struct {
			event api.Event
			order func(l []int)
		}{
			{api.Event{After: 2, Kind: api.EvCollect}, func(l []int) {}},
			{api.Event{After: 2, Kind: api.EvTurn, Level: -3}, slices.Reverse[[]int]},
			{api.Event{After: 2, Kind: api.EvSwap, Level: 0}, func(l []int) { l[0], l[1] = l[1], l[0] }},
			{api.Event{After: 2, Kind: api.EvSwap, Level: vars - 2}, func(l []int) { l[vars-2], l[vars-1] = l[vars-1], l[vars-2] }},
		} {
			if x.event.Kind == api.EvSwap && vars < 2 || vars == 0 {
				continue
			}
			m := newMan(t, vars, 1000)
			h := handle(t, m)
			parity, all := h(m.Copy(0)), h(m.Copy(1))
			for v := range vars {
				f := h(m.Var(v))
				parity, all = h(m.Ite(f, h(m.Not(parity)), parity)), h(m.Ite(f, all, 0))
			}
			before := []uint64{table(t, m, parity), table(t, m, all)}
			order := m.Order()
			expect(t, "Plan", m.Plan(x.event), api.OK)
			for _, f := range []int{2, 4} { // superfluous, as are others
				m.Drop(f)
			}
			f := h(m.Do(func(c *dd.Ctx) edge.Edge {
				c.Mk(0, edge.Zero, edge.One)
				return c.Mk(0, edge.One, edge.Zero)
			}))
			x.order(order)
			if m.Waits() != 0 || !slices.Equal(m.Order(), order) {
				t.Errorf("%v: order %v; want %v", x.event, m.Order(), order)
			}
			if table(t, m, parity) != before[0] || table(t, m, all) != before[1] || table(t, m, f)&1 != 1 || table(t, m, f)&2 != 0 {
				t.Errorf("%v: %x, %x", x.event, table(t, m, parity), table(t, m, all))
			}
		}
	}
}

func TestTheCallThatAnEventEnds(t *testing.T) {
	m := newMan(t, 2, 10)
	m.Plan(collections(2, 3)...)
	called, returned := 0, 0
	expect(t, "Look", m.Look(func(x *dd.Ctx) {
		for range 4 {
			called++
			x.Mk(0, edge.Zero, edge.One)
			returned++
		}
	}), api.OK)
	if called != 2+3+4 || returned != 1+2+4 {
		t.Errorf("%d calls of Mk, of which %d return", called, returned)
	}
}

func TestACollectionAmidAnOperation(t *testing.T) {
	m := newMan(t, 3, 10)
	m.Plan(collections(3)...)
	lens := []int{}
	expect(t, "Look", m.Look(func(x *dd.Ctx) {
		lens = append(lens, m.Len())
		for v := range 3 {
			x.Mk(v, edge.Zero, edge.One)
		}
	}), api.OK)
	if !slices.Equal(lens, []int{0, 0}) || m.Len() != 3 {
		t.Error(lens, m.Len())
	}
}

func TestSwapsWithoutRoomAreSkipped(t *testing.T) {
	for room := 4; room < 9; room++ {
		for _, event := range []api.Event{{After: 1, Kind: api.EvTurn}, {After: 1, Kind: api.EvSwap}} {
			m := newMan(t, 3, room)
			h := handle(t, m)
			a, b, c := h(m.Var(0)), h(m.Var(1)), h(m.Var(2))
			f := h(m.Ite(a, b, c))
			expect(t, "Plan", m.Plan(event), api.OK)
			if begun := starts(t, m, 1); begun != 2 || m.Waits() != 0 {
				t.Error(begun, m.Waits())
			}
			if table(t, m, f) != 0xD8 || table(t, m, a) != 0xAA || table(t, m, b) != 0xCC || table(t, m, c) != 0xF0 {
				t.Errorf("%v with room %d: %x", event, room, table(t, m, f))
			}
			if room == 4 && event.Kind == api.EvSwap && m.Order()[0] != 0 {
				t.Error(m.Order())
			}
			if room == 8 && event.Kind == api.EvTurn && !slices.Equal(m.Order(), []int{2, 1, 0}) {
				t.Error(m.Order())
			}
		}
	}
}

func TestAFailureAfterAnEvent(t *testing.T) {
	m := newMan(t, 2, 10)
	h := handle(t, m)
	a := h(m.Var(0))
	m.Plan(api.Event{After: 1, Kind: api.EvTurn}, api.Event{After: 9, Kind: api.EvTurn})
	fails(t, m, api.ErrVar, do(m, func(x *dd.Ctx) edge.Edge { return x.Mk(2, edge.Zero, edge.One) }))
	if m.Waits() != 1 || m.Order()[0] != 1 || table(t, m, a) != 0xA {
		t.Error(m.Waits(), m.Order())
	}
}
