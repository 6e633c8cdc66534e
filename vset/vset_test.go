package vset_test

import (
	"math"
	"slices"
	"testing"

	"voussoir/vset"
)

// lists are all lists of at most three elements, of -1, 0 and 5, and some others.
func lists() [][]int {
	l := [][]int{nil, {math.MaxInt, math.MinInt, 0, math.MaxInt}, {9, 8, 7, 6, 5, 4, 3, 2, 1, 0, -1}, {70, 1, 64, 1, 63}}
	some := []int{-1, 0, 5}
	for _, a := range some {
		l = append(l, []int{a})
		for _, b := range some {
			l = append(l, []int{a, b})
			for _, c := range some {
				l = append(l, []int{a, b, c})
			}
		}
	}
	return l
}

// elements returns the elements of the lists for which keep is true of the lists that have it, in canonical form.
func elements(keep func(in []bool) bool, l ...[]int) []int {
	var out []int
	for _, some := range l {
		for _, v := range some {
			in := make([]bool, len(l))
			for i, other := range l {
				in[i] = slices.Contains(other, v)
			}
			if keep(in) && !slices.Contains(out, v) {
				out = append(out, v)
			}
		}
	}
	slices.Sort(out)
	return out
}

func everywhere(in []bool) bool { return true }

func same(t *testing.T, call string, got, want []int) {
	t.Helper()
	if !slices.Equal(got, want) {
		t.Errorf("%s = %v; want %v", call, got, want)
	}
	if cap(got) != len(got) {
		t.Errorf("%s has spare capacity", call)
	}
}

func TestOfRightHas(t *testing.T) {
	for _, l := range lists() {
		same(t, "Of", vset.Of(l...), elements(everywhere, l))
		if right := slices.Equal(l, elements(everywhere, l)); vset.Right(l) != right {
			t.Errorf("Right(%v) = %v", l, !right)
		}
		for v := -2; v < 72; v++ {
			if vset.Has(l, v) != slices.Contains(l, v) {
				t.Errorf("Has(%v, %d)", l, v)
			}
		}
	}
	if len(vset.Of()) != 0 || !vset.Right(nil) || !vset.Right([]int{4}) || vset.Right([]int{1, 1}) || vset.Right([]int{1, 3, 2}) || vset.Has(nil, 0) {
		t.Error("edges")
	}
}

func TestTwoSets(t *testing.T) {
	both := func(in []bool) bool { return in[0] && in[1] }
	first := func(in []bool) bool { return in[0] && !in[1] }
	for _, a := range lists() {
		for _, b := range lists() {
			less := elements(first, a, b)
			same(t, "Union", vset.Union(a, b), elements(everywhere, a, b))
			same(t, "Meet", vset.Meet(a, b), elements(both, a, b))
			same(t, "Less", vset.Less(a, b), less)
			if vset.Within(a, b) != (len(less) == 0) {
				t.Errorf("Within(%v, %v)", a, b)
			}
			if equal := slices.Equal(elements(everywhere, a), elements(everywhere, b)); vset.Same(a, b) != equal {
				t.Errorf("Same(%v, %v) = %v", a, b, !equal)
			}
		}
	}
}

func TestUnionOfMany(t *testing.T) {
	same(t, "Union", vset.Union(), nil)
	same(t, "Union", vset.Union(nil, nil), nil)
	same(t, "Union", vset.Union([]int{3, 3}), []int{3})
	want := []int{-4, 0, 1, 2, 4}
	same(t, "Union", vset.Union([]int{2, 1}, nil, []int{1, 4}, []int{-4, 0, 4}), want)
	same(t, "Union", vset.Union([]int{-4, 0, 4}, []int{1, 4}, []int{2, 1}, []int{2, 1}, []int{0}), want)
}

func TestDerived(t *testing.T) {
	for _, a := range lists() {
		for _, b := range lists() {
			meet, less, union := vset.Meet(a, b), vset.Less(a, b), vset.Union(a, b)
			if len(vset.Meet(meet, less)) != 0 || !vset.Same(vset.Union(meet, less), a) {
				t.Errorf("%v, %v: Meet %v, Less %v", a, b, meet, less)
			}
			for _, v := range []int{-1, 0, 1, 5, 64, math.MaxInt} {
				if vset.Has(union, v) != (vset.Has(a, v) || vset.Has(b, v)) {
					t.Errorf("%v, %v: Union %v has %d", a, b, union, v)
				}
			}
		}
	}
}

func TestExamples(t *testing.T) {
	same(t, "Of", vset.Of(3, 1, 3), []int{1, 3})
	same(t, "Union", vset.Union([]int{2, 1}, []int{1, 4}), []int{1, 2, 4})
	same(t, "Less", vset.Less([]int{1, 2, 3}, []int{2}), []int{1, 3})
}

func TestArgumentsStayAsTheyAre(t *testing.T) {
	whole := []int{5, 3, 3, 1, 9, 7}
	a, b := whole[:4], []int{3, 1, 0}
	results := [][]int{vset.Of(a...), vset.Union(a), vset.Union(a, b), vset.Union(nil, a), vset.Meet(a, b), vset.Less(a, b)}
	vset.Within(a, b)
	vset.Same(a, b)
	vset.Has(a, 3)
	vset.Right(a)
	for _, l := range results {
		for i := range l {
			l[i] = 100
		}
	}
	if !slices.Equal(whole, []int{5, 3, 3, 1, 9, 7}) || !slices.Equal(b, []int{3, 1, 0}) {
		t.Error(whole, b)
	}
	sorted := []int{1, 2, 3}
	for _, l := range [][]int{vset.Of(sorted...), vset.Union(sorted), vset.Meet(sorted, sorted), vset.Less(sorted, nil)} {
		l[0] = 100
	}
	if sorted[0] != 1 {
		t.Error("a result shares memory with an argument")
	}
}
