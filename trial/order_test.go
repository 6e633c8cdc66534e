package trial_test

import (
	"math/rand"
	"slices"
	"testing"

	"voussoir/api"
	"voussoir/supp"
	"voussoir/trial"
)

func TestSize(t *testing.T) {
	r := rand.New(rand.NewSource(4))
	for range 300 {
		vars := r.Intn(7)
		w := trial.New(t, r, vars, trial.Enough(vars, 4))
		tables := []uint64{w.Some(), w.Some()}
		handles := []int{w.Handle(tables[0]), w.Handle(tables[1])}
		w.Disturb()
		for many := range 3 {
			n, e := supp.Size(w.M, handles[:many]...)
			if got := trial.Size(w.M.Order(), w.Spread(tables[:many]...)...); got != n || e != api.OK {
				t.Fatalf("%x in order %v: %d; want %d", tables[:many], w.M.Order(), got, n)
			}
		}
	}
	x := []uint64{0xaaaaaaaaaaaaaaaa, 0xcccccccccccccccc, 0xf0f0f0f0f0f0f0f0, 0xff00ff00ff00ff00}
	f := x[0]&x[2] | x[1]&x[3] // example 1 of chapter 23
	if a, b := trial.Size([]int{0, 1, 2, 3}, f), trial.Size([]int{0, 2, 1, 3}, f); a != 6 || b != 4 {
		t.Error(a, b)
	}
}

func TestArrangements(t *testing.T) {
	want := [][]int{{3, 1, 2}, {3, 2, 1}, {1, 3, 2}, {1, 2, 3}, {2, 3, 1}, {2, 1, 3}}
	if l := trial.Arrangements([]int{3, 1, 2}); !slices.EqualFunc(l, want, slices.Equal) {
		t.Error(l)
	}
	if l := trial.Arrangements([]int{}); len(l) != 1 || len(l[0]) != 0 {
		t.Error(l)
	}
	if l := trial.Arrangements([]int{0, 1, 2, 3, 4}); len(l) != 120 {
		t.Error(len(l))
	}
}

func TestTight(t *testing.T) {
	r := rand.New(rand.NewSource(5))
	for range 100 {
		more := 5 + r.Intn(4)
		w, tables, handles := trial.Tight(t, r, more)
		w.Keeps(tables[:], handles[:])
		if n, _ := supp.Size(w.M, handles[:]...); w.M.Len() != n || w.M.Room() != n+more {
			t.Fatal(n, more, w.M.Len(), w.M.Room())
		}
	}
	fails(t, "another function", 2, func(w *trial.World) { w.Keeps([]uint64{6}, []int{w.Handle(7)}) })
	fails(t, "one handle more", 2, func(w *trial.World) {
		w.Handle(7)
		w.Keeps([]uint64{6}, []int{w.Handle(6)})
	})
	fails(t, "one handle less", 2, func(w *trial.World) { w.Keeps([]uint64{15, 15}, []int{1, w.Handle(15)}) })
}
