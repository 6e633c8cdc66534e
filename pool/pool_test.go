package pool_test

import (
	"math"
	"slices"
	"testing"

	"voussoir/api"
	"voussoir/pool"
)

func newPool(t *testing.T, room int) *pool.Pool {
	t.Helper()
	p, e := pool.New(room)
	if p == nil || e != api.OK {
		t.Fatalf("New(%d): %d", room, e)
	}
	return p
}

func TestNew(t *testing.T) {
	for _, room := range []int{math.MinInt, -1, 0, api.MaxRoom + 1, math.MaxInt} {
		if p, e := pool.New(room); p != nil || e != api.ErrRange {
			t.Errorf("New(%d): %d", room, e)
		}
	}
	for _, room := range []int{1, 2, 100, api.MaxRoom} {
		p := newPool(t, room)
		if p.Room() != room || p.Len() != 0 || len(slices.Collect(p.Each())) != 0 {
			t.Errorf("New(%d): %d, %d", room, p.Room(), p.Len())
		}
		if _, ok := p.At(1); ok || p.Give(1) != api.ErrNone || p.Set(api.Node{ID: 1}) != api.ErrNone {
			t.Errorf("New(%d): slot 1 is allocated", room)
		}
	}
}

func take(t *testing.T, p *pool.Pool, n api.Node, want int) {
	t.Helper()
	if id, e := p.Take(n); id != want || e != api.OK {
		t.Errorf("Take: %d, %d; want %d", id, e, want)
	}
}

func full(t *testing.T, p *pool.Pool) {
	t.Helper()
	if id, e := p.Take(api.Node{ID: 1, Var: 9}); id != 0 || e != api.ErrRoom {
		t.Errorf("Take of a full pool: %d, %d", id, e)
	}
}

func TestTheExample(t *testing.T) {
	p := newPool(t, 2)
	take(t, p, api.Node{}, 1)
	take(t, p, api.Node{}, 2)
	full(t, p)
	if e := p.Give(1); e != api.OK {
		t.Error(e)
	}
	take(t, p, api.Node{}, 1)
	full(t, p)
}

func TestTheGreatestPool(t *testing.T) {
	p := newPool(t, api.MaxRoom)
	for i := range api.MaxRoom {
		take(t, p, api.Node{Var: i}, i+1)
	}
	full(t, p)
	if n, ok := p.At(api.MaxRoom); !ok || n != (api.Node{ID: api.MaxRoom, Var: api.MaxRoom - 1}) || p.Len() != api.MaxRoom {
		t.Error(n, ok, p.Len())
	}
	for id := 1; id <= api.MaxRoom; id++ {
		if e := p.Give(id); e != api.OK {
			t.Fatal(id, e)
		}
	}
	for id := api.MaxRoom; id >= 1; id-- { // now and then a Give between: it may not cost a copy of all that is free
		take(t, p, api.Node{}, id)
		p.Give(id)
		take(t, p, api.Node{}, id)
	}
	full(t, p)
}

func TestReleasedSlotsComeFirst(t *testing.T) {
	p := newPool(t, 6)
	for i := range 4 {
		take(t, p, api.Node{}, i+1)
	}
	for _, id := range []int{2, 4, 1} {
		if p.Give(id) != api.OK {
			t.Error("Give", id)
		}
	}
	take(t, p, api.Node{}, 1)
	take(t, p, api.Node{}, 4)
	if p.Give(3) != api.OK {
		t.Error("Give 3")
	}
	for _, id := range []int{3, 2, 5, 6} {
		take(t, p, api.Node{}, id)
	}
	full(t, p)
}

func TestGiveOfAFreeSlot(t *testing.T) {
	p := newPool(t, 4)
	take(t, p, api.Node{}, 1)
	take(t, p, api.Node{}, 2)
	if p.Give(1) != api.OK {
		t.Error("Give")
	}
	for _, id := range []int{1, 0, -1, 3, 4, 5, math.MinInt, math.MaxInt} {
		if e := p.Give(id); e != api.ErrNone {
			t.Errorf("Give(%d): %d", id, e)
		}
	}
	if p.Len() != 1 {
		t.Error(p.Len())
	}
	for _, id := range []int{1, 3, 4} {
		take(t, p, api.Node{}, id)
	}
	full(t, p)
}

func TestAtAndSet(t *testing.T) {
	p := newPool(t, 4)
	n := api.Node{ID: 77, Var: 1, Lo: -2, Hi: 3, Refs: 4}
	take(t, p, n, 1)
	take(t, p, api.Node{Var: 8}, 2)
	n.ID = 1
	if got, ok := p.At(1); got != n || !ok {
		t.Error(got, ok)
	}
	if got, ok := p.At(2); got != (api.Node{ID: 2, Var: 8}) || !ok {
		t.Error(got, ok)
	}
	other := api.Node{ID: 2, Var: 5, Lo: 6, Hi: 7, Refs: -8}
	if e := p.Set(other); e != api.OK {
		t.Error(e)
	}
	if got, ok := p.At(2); got != other || !ok {
		t.Error(got, ok)
	}
	if got, ok := p.At(1); got != n || !ok {
		t.Error(got, ok)
	}
	p.Give(2)
	for _, id := range []int{2, 0, -1, 3, 4, 5, math.MinInt, math.MaxInt} {
		if got, ok := p.At(id); got != (api.Node{}) || ok {
			t.Errorf("At(%d) = %v, %v", id, got, ok)
		}
		if e := p.Set(api.Node{ID: id, Var: 3}); e != api.ErrNone {
			t.Errorf("Set of %d: %d", id, e)
		}
	}
	take(t, p, api.Node{}, 2)
	if got, ok := p.At(2); got != (api.Node{ID: 2}) || !ok {
		t.Error(got, ok)
	}
}

func TestEach(t *testing.T) {
	p := newPool(t, 5)
	each := p.Each()
	for i := range 5 {
		take(t, p, api.Node{Var: 10 + i}, i+1)
	}
	p.Give(4)
	p.Give(2)
	want := []api.Node{{ID: 1, Var: 10}, {ID: 3, Var: 12}, {ID: 5, Var: 14}}
	if l := slices.Collect(p.Each()); !slices.Equal(l, want) {
		t.Error(l)
	}
	if l := slices.Collect(each); !slices.Equal(l, want) {
		t.Error("an iterator tells of the time of its making", l)
	}
	many := 0
	for n := range each {
		many++
		if n.ID == 3 {
			break
		}
	}
	if many != 2 {
		t.Error(many)
	}
}

func TestNilPool(t *testing.T) {
	var p *pool.Pool
	if p.Room() != 0 || p.Len() != 0 || p.Give(1) != api.ErrNone || p.Set(api.Node{ID: 1}) != api.ErrNone {
		t.Error("methods")
	}
	if id, e := p.Take(api.Node{}); id != 0 || e != api.ErrNone {
		t.Error(id, e)
	}
	if n, ok := p.At(1); n != (api.Node{}) || ok {
		t.Error(n, ok)
	}
	for n := range p.Each() {
		t.Error(n)
	}
}

// model is a pool as the chapter tells it, in plain lists.
type model struct {
	nodes map[int]api.Node
	free  []int
	fresh int
}

func (m *model) take(n api.Node, room int) int {
	id := m.fresh + 1
	if last := len(m.free) - 1; last >= 0 {
		id = m.free[last]
		m.free = m.free[:last]
	} else if id > room {
		return 0
	} else {
		m.fresh++
	}
	n.ID = id
	m.nodes[id] = n
	return id
}

func (m *model) give(id int) api.Errno {
	if _, ok := m.nodes[id]; !ok {
		return api.ErrNone
	}
	delete(m.nodes, id)
	m.free = append(m.free, id)
	return api.OK
}

func TestManyCalls(t *testing.T) {
	const room = 20
	p, m := newPool(t, room), model{nodes: map[int]api.Node{}}
	seed := uint32(1)
	for step := range 5000 {
		seed = seed*1664525 + 1013904223
		id := int(seed>>20) % (room + 2)
		if seed>>16&15 < 8 {
			got, e := p.Take(api.Node{Var: step})
			want := m.take(api.Node{Var: step}, room)
			if got != want || (e == api.ErrRoom) != (want == 0) {
				t.Fatalf("step %d: Take %d, %d; want %d", step, got, e, want)
			}
		} else if e := p.Give(id); e != m.give(id) {
			t.Fatalf("step %d: Give(%d) %d", step, id, e)
		}
		l := slices.Collect(p.Each())
		if p.Len() != len(m.nodes) || len(l) != p.Len() {
			t.Fatalf("step %d: %d nodes, %d told; want %d", step, p.Len(), len(l), len(m.nodes))
		}
		for i, n := range l {
			if n != m.nodes[n.ID] || n.ID < 1 || n.ID > room || i > 0 && l[i-1].ID >= n.ID {
				t.Fatalf("step %d: %v", step, l)
			}
		}
	}
}
