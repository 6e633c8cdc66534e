package travel_test

import (
	"math/rand"
	"slices"
	"testing"

	"voussoir/travel"
)

// row is a row of places for a test.
type row struct {
	sizes  []int
	shut   []bool // whether there is no step between a place and the next one
	limit  int    // no way is gone on beyond a greater size than that
	at     int
	looked []int // the places of which the size was asked for, in order
}

// walks checks Settle from start, and returns the places of which the size was asked for.
func (w *row) walks(t *testing.T, start int) []int {
	t.Helper()
	w.at, w.looked = start, nil
	least := w.sizes[start]
	size := travel.Row{
		Last: len(w.sizes) - 1,
		Step: func(from, to int) bool {
			if from != w.at || to != from+1 && to != from-1 || to < 0 || to >= len(w.sizes) {
				t.Fatal(w, from, to)
			}
			if w.shut[min(from, to)] {
				return false
			}
			w.at = to
			return true
		},
		Size: func() int {
			w.looked = append(w.looked, w.at)
			return w.sizes[w.at]
		},
		More: func(size, best int) bool {
			least = min(least, size)
			if size != w.sizes[w.at] || best != least {
				t.Fatal(w, size, best)
			}
			return size <= w.limit
		},
	}.Settle(start)
	want := slices.Min(w.reachable(start))
	if size != want || w.sizes[w.at] != want || want == w.sizes[start] && w.at != start {
		t.Fatalf("%v from %d: %d at %d; want %d", w, start, size, w.at, want)
	}
	return w.looked
}

// reachable returns the sizes of the places that are to be found from start.
func (w *row) reachable(start int) (sizes []int) {
	sizes = []int{w.sizes[start]}
	for k := start + 1; k < len(w.sizes) && !w.shut[k-1]; k++ {
		sizes = append(sizes, w.sizes[k])
		if w.sizes[k] > w.limit {
			break
		}
	}
	for k := start - 1; k >= 0 && !w.shut[k]; k-- {
		sizes = append(sizes, w.sizes[k])
		if w.sizes[k] > w.limit {
			break
		}
	}
	return sizes
}

func TestSettle(t *testing.T) {
	r := rand.New(rand.NewSource(1))
	for range 20000 {
		w := row{limit: 3 + r.Intn(9)}
		for range 1 + r.Intn(7) {
			w.sizes, w.shut = append(w.sizes, r.Intn(10)), append(w.shut, r.Intn(6) == 0)
		}
		w.walks(t, r.Intn(len(w.sizes)))
	}
}

// On its way back to the start it looks at nothing, so that what it has found meanwhile doesn't keep it from the other way.
func TestTheWay(t *testing.T) {
	w := row{sizes: []int{5, 6, 7, 4, 9, 1}, shut: make([]bool, 6), limit: 8}
	if l := w.walks(t, 2); !slices.Equal(l, []int{2, 3, 4, 1, 0}) {
		t.Error(l)
	}
	w.limit = 9
	if l := w.walks(t, 2); !slices.Equal(l, []int{2, 3, 4, 5, 1, 0}) {
		t.Error(l)
	}
	w.shut[0] = true
	if l := w.walks(t, 5); !slices.Equal(l, []int{5, 4, 3, 2, 1}) {
		t.Error(l)
	}
}
