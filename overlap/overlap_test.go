package overlap_test

import (
	"math/rand"
	"testing"

	"voussoir/api"
	"voussoir/dd"
	"voussoir/overlap"
	"voussoir/trial"
)

// ask checks what Meets and Within answer for two functions with these tables.
func ask(w *trial.World, f, g int, a, b uint64) {
	w.T.Helper()
	nodes := w.M.Len()
	var meets, within bool
	e := w.M.Look(func(x *dd.Ctx) {
		meets = overlap.Meets(x, x.Edge(f), x.Edge(g))
		within = overlap.Within(x, x.Edge(f), x.Edge(g))
	})
	if e != api.OK || meets != (a&b != 0) || within != (a&^b == 0) || w.M.Len() != nodes {
		w.T.Fatalf("%x, %x: %v, %v, %d, and %d nodes; there were %d", a, b, meets, within, e, w.M.Len(), nodes)
	}
}

func TestAllPairsOfTwoVariables(t *testing.T) {
	w := trial.New(t, nil, 2, trial.Enough(2, 20))
	var l []int
	for values := range uint64(16) {
		l = append(l, w.Handle(values))
	}
	for a := range uint64(16) {
		for b := range uint64(16) {
			ask(w, l[a], l[b], a, b)
		}
	}
}

// What is remembered for one order or for nodes that are gone does not count afterwards.
func TestAskedAgain(t *testing.T) {
	r := rand.New(rand.NewSource(1))
	w := trial.New(t, r, 5, 120)
	for range 3000 {
		a, b := w.Some(), w.Some()
		if r.Intn(3) == 0 {
			b |= a
		}
		f, g := w.Handle(a), w.Handle(b)
		for range 2 {
			ask(w, f, g, a, b)
			ask(w, g, f, b, a)
			w.M.Swap(r.Intn(4))
		}
		w.M.Drop(f, g)
	}
}
