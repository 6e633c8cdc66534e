package uniq_test

import (
	"cmp"
	"math"
	"slices"
	"testing"

	"voussoir/api"
	"voussoir/edge"
	"voussoir/uniq"
)

type row struct {
	lo, hi edge.Edge
	id     int
}

func rows(t *uniq.Table) []row {
	var l []row
	for key, id := range t.Each() {
		l = append(l, row{key[0], key[1], id})
	}
	return l
}

func find(t *testing.T, u *uniq.Table, lo, hi edge.Edge, want int, found bool) {
	t.Helper()
	if id, ok := u.Find(lo, hi); id != want || ok != found {
		t.Errorf("Find(%d, %d) = %d, %v; want %d, %v", lo, hi, id, ok, want, found)
	}
}

func answer(t *testing.T, call string, got, want api.Errno) {
	t.Helper()
	if got != want {
		t.Errorf("%s: %d; want %d", call, got, want)
	}
}

func TestNew(t *testing.T) {
	u, other := uniq.New(), uniq.New()
	if u == nil || u == other || u.Len() != 0 || len(rows(u)) != 0 {
		t.Fatal("not an empty table")
	}
	find(t, u, 0, 0, 0, false)
	answer(t, "Cut", u.Cut(0, 0), api.ErrNone)
	answer(t, "Put", u.Put(2, 4, 6), api.OK)
	if other.Len() != 0 {
		t.Error("two tables have their entries together")
	}
}

func TestTheExample(t *testing.T) {
	u := uniq.New()
	answer(t, "Put(1, 0, 7)", u.Put(1, 0, 7), api.OK)
	answer(t, "Put(1, 0, 8)", u.Put(1, 0, 8), api.ErrTwice)
	find(t, u, 1, 0, 7, true)
	find(t, u, 0, 1, 0, false)
}

func TestPutOfAPairThatHasAnEntry(t *testing.T) {
	u := uniq.New()
	answer(t, "Put", u.Put(3, 5, 0), api.OK)
	for _, id := range []int{0, 1, -1} {
		answer(t, "Put", u.Put(3, 5, id), api.ErrTwice)
	}
	find(t, u, 3, 5, 0, true)
	if u.Len() != 1 {
		t.Error(u.Len())
	}
}

func TestCutAndClear(t *testing.T) {
	u := uniq.New()
	for i, p := range [][2]edge.Edge{{1, 0}, {0, 1}, {1, 1}, {7, 2}} {
		answer(t, "Put", u.Put(p[0], p[1], 10+i), api.OK)
	}
	answer(t, "Cut", u.Cut(0, 1), api.OK)
	answer(t, "Cut", u.Cut(0, 1), api.ErrNone)
	answer(t, "Cut", u.Cut(2, 7), api.ErrNone)
	find(t, u, 0, 1, 0, false)
	find(t, u, 1, 0, 10, true)
	find(t, u, 1, 1, 12, true)
	find(t, u, 7, 2, 13, true)
	answer(t, "Put", u.Put(0, 1, 99), api.OK)
	find(t, u, 0, 1, 99, true)
	u.Clear()
	if u.Len() != 0 || len(rows(u)) != 0 {
		t.Error("Clear leaves entries")
	}
	find(t, u, 1, 0, 0, false)
	answer(t, "Cut", u.Cut(1, 0), api.ErrNone)
	answer(t, "Put", u.Put(1, 0, 8), api.OK)
	find(t, u, 1, 0, 8, true)
}

func TestEachIsInOrder(t *testing.T) {
	want := []row{
		{9, 9, math.MinInt}, {5, 2, -3}, {8, 0, 0}, {0, 1, 4}, {0, 2, 4}, {1, 0, 4}, {1, 3, 4}, {20, 0, 4},
		{math.MinInt, 6, 5}, {-1, math.MaxInt, 5}, {3, 3, 5}, {math.MaxInt, 0, 6}, {2, 2, math.MaxInt},
	}
	for turn := range 5 {
		u := uniq.New()
		for i := range want {
			x := want[(i*5+turn*3)%len(want)]
			answer(t, "Put", u.Put(x.lo, x.hi, x.id), api.OK)
		}
		if l := rows(u); !slices.Equal(l, want) {
			t.Errorf("Each: %v", l)
		}
	}
}

func TestEachStopsAndStartsAnew(t *testing.T) {
	u := uniq.New()
	each := u.Each()
	for i := range edge.Edge(6) {
		u.Put(i, 0, int(10-i))
	}
	for range 2 { // the state counts at the time when the range statement begins
		var ids []int
		for _, id := range each {
			ids = append(ids, id)
			if len(ids) == 3 {
				break
			}
		}
		if !slices.Equal(ids, []int{5, 6, 7}) {
			t.Error(ids)
		}
	}
	u.Clear()
	for key, id := range each {
		t.Error(key, id)
	}
}

func TestNilTable(t *testing.T) {
	var u *uniq.Table
	find(t, u, 0, 1, 0, false)
	answer(t, "Put", u.Put(0, 1, 2), api.ErrNone)
	answer(t, "Cut", u.Cut(0, 1), api.ErrNone)
	u.Clear()
	if u.Len() != 0 || len(rows(u)) != 0 {
		t.Error("a nil table has entries")
	}
}

func TestManyCalls(t *testing.T) {
	u, model := uniq.New(), map[[2]edge.Edge]int{}
	seed := uint32(3)
	for step := range 20000 {
		seed = seed*1664525 + 1013904223
		lo, hi, id := edge.Edge(seed>>16&7), edge.Edge(seed>>19&7), int(seed>>22&15)
		key := [2]edge.Edge{lo, hi}
		_, had := model[key]
		switch what := seed >> 26; {
		case what == 0:
			u.Clear()
			clear(model)
		case what < 32 && had:
			answer(t, "Put", u.Put(lo, hi, id), api.ErrTwice)
		case what < 32:
			answer(t, "Put", u.Put(lo, hi, id), api.OK)
			model[key] = id
		case had:
			answer(t, "Cut", u.Cut(lo, hi), api.OK)
			delete(model, key)
		default:
			answer(t, "Cut", u.Cut(lo, hi), api.ErrNone)
		}
		if step%50 == 0 {
			same(t, u, model)
		}
	}
}

func same(t *testing.T, u *uniq.Table, model map[[2]edge.Edge]int) {
	t.Helper()
	var want []row
	for lo := range edge.Edge(8) {
		for hi := range edge.Edge(8) {
			id, ok := model[[2]edge.Edge{lo, hi}]
			find(t, u, lo, hi, id, ok)
			if ok {
				want = append(want, row{lo, hi, id})
			}
		}
	}
	slices.SortStableFunc(want, func(a, b row) int { return cmp.Compare(a.id, b.id) })
	if l := rows(u); u.Len() != len(model) || !slices.Equal(l, want) {
		t.Errorf("%d entries: %v; want %v", u.Len(), l, want)
	}
}
