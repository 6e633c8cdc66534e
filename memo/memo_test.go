package memo_test

import (
	"math"
	"testing"

	"voussoir/edge"
	"voussoir/memo"
)

const most = 1 << 16

type key struct {
	op      int
	a, b, c edge.Edge
}

func get(t *testing.T, m *memo.Memo, k key, want edge.Edge, found bool) {
	t.Helper()
	if r, ok := m.Get(k.op, k.a, k.b, k.c); r != want || ok != found {
		t.Errorf("Get(%v) = %d, %v; want %d, %v", k, r, ok, want, found)
	}
}

func count(t *testing.T, m *memo.Memo, asked, found int) {
	t.Helper()
	if a, f := m.Count(); a != asked || f != found {
		t.Errorf("Count = %d, %d; want %d, %d", a, f, asked, found)
	}
}

func TestNewAndSize(t *testing.T) {
	for size, want := range map[int]int{
		math.MinInt: 1, -3: 1, 0: 1, 1: 1, 2: 2, 127: 127, 128: 128, 129: 129, 1000: 1000,
		most - 1: most - 1, most: most, most + 1: most, math.MaxInt: most,
	} {
		m := memo.New(size)
		if m.Size() != want {
			t.Errorf("Size of New(%d) is %d; want %d", size, m.Size(), want)
		}
		count(t, m, 0, 0)
		get(t, m, key{}, 0, false)
		get(t, m, key{100, 2, 4, 6}, 0, false)
		count(t, m, 2, 0)
	}
}

func TestTheExample(t *testing.T) {
	m := memo.New(2)
	m.Put(100, 2, 4, 6, 8)
	get(t, m, key{100, 2, 4, 6}, 8, true)
	get(t, m, key{100, 2, 4, 7}, 0, false)
	m.Clear()
	get(t, m, key{100, 2, 4, 6}, 0, false)
	count(t, m, 3, 1)
}

func TestEachPartOfTheKeyCounts(t *testing.T) {
	keys := []key{
		{100, 2, 4, 6}, {101, 2, 4, 6}, {100, 3, 4, 6}, {100, 2, 5, 6}, {100, 2, 4, 7}, {100, 4, 2, 6}, {100, 6, 4, 2},
		{100, 2, 6, 4}, {2, 100, 4, 6}, {-100, 2, 4, 6}, {100, -2, 4, 6}, {0, 0, 0, 0}, {0, 0, 0, 1}, {0, 1, 0, 0},
		{math.MinInt, math.MinInt, math.MinInt, math.MinInt}, {math.MaxInt, math.MaxInt, math.MaxInt, math.MaxInt},
	}
	for _, size := range []int{1, 2, 7, most} {
		for i, k := range keys {
			m := memo.New(size)
			m.Put(k.op, k.a, k.b, k.c, edge.Edge(i-3))
			for _, other := range keys {
				if other == k {
					get(t, m, k, edge.Edge(i-3), true)
				} else {
					get(t, m, other, 0, false)
				}
			}
		}
	}
}

func TestTheLastResultCounts(t *testing.T) {
	for _, size := range []int{1, 3, most} {
		m := memo.New(size)
		for r := range edge.Edge(5) {
			m.Put(7, 1, 2, 3, r)
			get(t, m, key{7, 1, 2, 3}, r, true)
			get(t, m, key{7, 1, 2, 3}, r, true)
		}
		m.Put(7, 1, 2, 3, -4)
		get(t, m, key{7, 1, 2, 3}, -4, true)
		count(t, m, 11, 11)
	}
}

func TestATableOfOne(t *testing.T) {
	m := memo.New(1)
	m.Put(100, 2, 4, 6, 8)
	m.Put(100, 1, 1, 1, 3)
	get(t, m, key{100, 2, 4, 6}, 0, false)
	get(t, m, key{100, 1, 1, 1}, 3, true)
}

func TestClear(t *testing.T) {
	for _, size := range []int{1, 200, most} {
		m := memo.New(size)
		m.Clear()
		for i := range edge.Edge(1000) {
			m.Put(100, i, 0, 0, i)
		}
		asked, found := m.Count()
		m.Clear()
		count(t, m, asked, found)
		for i := range edge.Edge(1000) {
			get(t, m, key{100, i, 0, 0}, 0, false)
		}
		count(t, m, asked+1000, found)
		m.Put(100, 5, 0, 0, 6)
		get(t, m, key{100, 5, 0, 0}, 6, true)
		if m.Size() != size {
			t.Error(m.Size())
		}
	}
}

func TestNilMemo(t *testing.T) {
	var m *memo.Memo
	m.Put(100, 2, 4, 6, 8)
	get(t, m, key{100, 2, 4, 6}, 0, false)
	m.Clear()
	count(t, m, 0, 0)
	if m.Size() != 0 {
		t.Error(m.Size())
	}
}

func TestManyCalls(t *testing.T) {
	for _, size := range []int{1, 2, 3, 10, 128, 129, 500, most} {
		m, model := memo.New(size), map[key]edge.Edge{}
		asked, found := 0, 0
		seed := uint32(size)
		for step := range 20000 {
			seed = seed*1664525 + 1013904223
			k := key{int(seed >> 30), edge.Edge(seed >> 27 & 7), edge.Edge(seed >> 24 & 7), edge.Edge(seed >> 22 & 3)}
			if step%3000 == 2999 {
				m.Clear()
				clear(model)
			}
			if seed>>16&1 == 0 {
				m.Put(k.op, k.a, k.b, k.c, edge.Edge(step))
				model[k] = edge.Edge(step)
				get(t, m, k, edge.Edge(step), true)
				asked, found = asked+1, found+1
				continue
			}
			r, ok := m.Get(k.op, k.a, k.b, k.c)
			asked++
			if ok {
				found++
			}
			if last, stored := model[k]; ok && (!stored || r != last) || !ok && r != 0 {
				t.Fatalf("size %d, step %d: Get(%v) = %d, %v; stored %d, %v", size, step, k, r, ok, last, stored)
			}
		}
		count(t, m, asked, found)
		if hits := kept(m, model); hits > size {
			t.Errorf("size %d: %d keys are found", size, hits)
		}
	}
}

// kept returns how many of the keys are found.
func kept(m *memo.Memo, stored map[key]edge.Edge) int {
	hits := 0
	for k := range stored {
		if _, ok := m.Get(k.op, k.a, k.b, k.c); ok {
			hits++
		}
	}
	return hits
}

// A cache that keeps hardly anything would answer no promise falsely, but be of no use.
func TestMostEntriesAreKept(t *testing.T) {
	m := memo.New(most)
	for a := range edge.Edge(50) {
		for b := range edge.Edge(50) {
			m.Put(100, a, b, 1, a+b)
		}
	}
	hits := 0
	for a := range edge.Edge(50) {
		for b := range edge.Edge(50) {
			if r, ok := m.Get(100, a, b, 1); ok && r == a+b {
				hits++
			}
		}
	}
	if hits < 2300 {
		t.Errorf("%d of 2500 entries are kept", hits)
	}
}
