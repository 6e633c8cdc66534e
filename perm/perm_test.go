package perm_test

import (
	"math"
	"slices"
	"testing"

	"voussoir/api"
	"voussoir/perm"
)

// orders returns all orders of n elements.
func orders(n int) [][]int {
	if n == 0 {
		return [][]int{{}}
	}
	var l [][]int
	for _, shorter := range orders(n - 1) {
		for i := range n {
			l = append(l, slices.Insert(slices.Clone(shorter), i, n-1))
		}
	}
	return l
}

// counted returns 0, 1, .., n - 1 for any n.
func counted(n int) []int {
	l := make([]int, n)
	for i := range l {
		l[i] = i
	}
	return l
}

func TestRight(t *testing.T) {
	for n := range 5 {
		for _, l := range orders(n) {
			if !perm.Right(l) {
				t.Errorf("Right(%v)", l)
			}
			for i := range l {
				for _, v := range []int{-1, n, l[(i+1)%n], math.MinInt, math.MaxInt} {
					other := slices.Clone(l)
					other[i] = v
					if n > 1 && perm.Right(other) || n == 1 && v != 0 && perm.Right(other) {
						t.Errorf("Right(%v)", other)
					}
				}
			}
		}
	}
	if !perm.Right(nil) || perm.Right([]int{1}) || perm.Right([]int{1, 2}) || perm.Right([]int{-1, 0}) {
		t.Error("edges")
	}
}

func TestRightOfLongLists(t *testing.T) {
	for _, n := range []int{63, 64, 65, 66, 128, 1000} {
		l := counted(n)
		slices.Reverse(l)
		if !perm.Right(l) {
			t.Errorf("the reverse order of %d elements", n)
		}
		l[0] = n
		if perm.Right(l) {
			t.Errorf("%d elements, one of them too great", n)
		}
		l[0] = l[n-1]
		if perm.Right(l) {
			t.Errorf("%d elements, one of them twice", n)
		}
	}
}

func TestIdent(t *testing.T) {
	for _, n := range []int{math.MinInt, -1, 0, 1, 3, 63, 64, 65, math.MaxInt} {
		if l := perm.Ident(n); !slices.Equal(l, counted(max(0, min(api.MaxVars, n)))) {
			t.Errorf("Ident(%d) = %v", n, l)
		}
	}
}

func TestInverse(t *testing.T) {
	for n := range 6 {
		for _, l := range orders(n) {
			inverse := perm.Inverse(l)
			if len(inverse) != n || !slices.Equal(perm.Inverse(inverse), l) {
				t.Fatalf("Inverse(%v) = %v", l, inverse)
			}
			for i, v := range l {
				if inverse[v] != i {
					t.Errorf("Inverse(%v) = %v", l, inverse)
				}
			}
		}
	}
	long := perm.Turn(counted(300))
	if !slices.Equal(perm.Inverse(long), long) || !slices.Equal(perm.Inverse([]int{2, 0, 1}), []int{1, 2, 0}) {
		t.Error("Inverse")
	}
	for _, l := range [][]int{{1}, {-1}, {0, 0}, {0, 2}, {1, 2}, {2, 1, 1}} {
		if perm.Inverse(l) != nil {
			t.Errorf("Inverse(%v) = %v", l, perm.Inverse(l))
		}
	}
}

func TestSwap(t *testing.T) {
	l := []int{4, 4, -7, 9}
	cases := []struct {
		i    int
		want []int
	}{
		{0, []int{4, 4, -7, 9}}, {1, []int{4, -7, 4, 9}}, {2, []int{4, 4, 9, -7}},
		{3, l}, {4, l}, {-1, l}, {-2, l}, {math.MaxInt, l}, {math.MinInt, l},
	}
	for _, c := range cases {
		got := perm.Swap(l, c.i)
		if !slices.Equal(got, c.want) || !slices.Equal(perm.Swap(got, c.i), l) {
			t.Errorf("Swap(%v, %d) = %v", l, c.i, got)
		}
	}
	if len(perm.Swap(nil, 0)) != 0 || len(perm.Swap(nil, -1)) != 0 || !slices.Equal(perm.Swap([]int{3}, 0), []int{3}) {
		t.Error("short lists")
	}
}

func TestMove(t *testing.T) {
	for _, l := range [][]int{nil, {7}, {4, 5, 6, 7}, {3, 3, -1, 3, 8, 8}} {
		for from := -2; from <= len(l)+1; from++ {
			for to := -2; to <= len(l)+1; to++ {
				want := slices.Clone(l)
				if from >= 0 && from < len(l) && to >= 0 && to < len(l) {
					want = slices.Insert(slices.Delete(want, from, from+1), to, l[from])
				}
				got := perm.Move(l, from, to)
				if !slices.Equal(got, want) || !slices.Equal(perm.Move(got, to, from), l) {
					t.Errorf("Move(%v, %d, %d) = %v; want %v", l, from, to, got, want)
				}
			}
		}
		for _, far := range []int{math.MinInt, math.MaxInt} {
			if !slices.Equal(perm.Move(l, far, 0), l) || !slices.Equal(perm.Move(l, 0, far), l) || !slices.Equal(perm.Move(l, far, far), l) {
				t.Errorf("Move(%v) at %d", l, far)
			}
		}
	}
	if !slices.Equal(perm.Move([]int{0, 1, 2, 3}, 3, 1), []int{0, 3, 1, 2}) || !slices.Equal(perm.Move([]int{4, 5, 6, 7}, 0, 2), []int{5, 6, 4, 7}) {
		t.Error("examples")
	}
}

func TestTurn(t *testing.T) {
	for _, l := range [][]int{nil, {5}, {2, 0, 1}, {3, 3, -1, 8}, counted(100)} {
		got := perm.Turn(l)
		for i, v := range l {
			if len(got) != len(l) || got[len(l)-1-i] != v {
				t.Fatalf("Turn(%v) = %v", l, got)
			}
		}
		if !slices.Equal(perm.Turn(got), l) {
			t.Errorf("Turn of Turn of %v", l)
		}
	}
}

// filled returns the steps as the chapter tells them: the element that belongs at an index is exchanged with the one before it until it is there.
func filled(a, b []int) []int {
	var steps []int
	now := slices.Clone(a)
	for i, v := range b {
		for at := slices.Index(now, v); at > i; at-- {
			now[at-1], now[at] = now[at], now[at-1]
			steps = append(steps, at-1)
		}
	}
	return steps
}

func inversions(a, b []int) int {
	many := 0
	for i, v := range a {
		for _, w := range a[i+1:] {
			if slices.Index(b, w) < slices.Index(b, v) {
				many++
			}
		}
	}
	return many
}

func TestSteps(t *testing.T) {
	for n := range 5 {
		for _, a := range orders(n) {
			for _, b := range orders(n) {
				steps, e := perm.Steps(a, b)
				if e != api.OK || !slices.Equal(steps, filled(a, b)) || len(steps) != inversions(a, b) {
					t.Errorf("Steps(%v, %v) = %v, %d", a, b, steps, e)
				}
				now := a
				for _, i := range steps {
					now = perm.Swap(now, i)
				}
				if !slices.Equal(now, b) {
					t.Errorf("Steps(%v, %v) lead to %v", a, b, now)
				}
			}
		}
	}
	if steps, e := perm.Steps([]int{2, 0, 1}, []int{0, 1, 2}); e != api.OK || !slices.Equal(steps, []int{0, 1}) {
		t.Error(steps, e)
	}
	if steps, e := perm.Steps([]int{1, 2, 0}, []int{0, 1, 2}); e != api.OK || !slices.Equal(steps, []int{1, 0}) {
		t.Error(steps, e)
	}
	a, b := counted(100), perm.Turn(counted(100))
	if steps, e := perm.Steps(a, b); e != api.OK || !slices.Equal(steps, filled(a, b)) || len(steps) != 4950 {
		t.Error(len(steps), e)
	}
}

func TestStepsErrors(t *testing.T) {
	cases := []struct {
		a, b []int
		e    api.Errno
	}{
		{nil, nil, api.OK},
		{[]int{0}, []int{}, api.ErrForm},
		{nil, []int{1, 0}, api.ErrForm},
		{[]int{1, 0}, []int{0, 1, 2}, api.ErrForm},
		{[]int{1}, []int{0}, api.ErrArg},
		{[]int{0}, []int{1}, api.ErrArg},
		{[]int{1}, nil, api.ErrArg},
		{nil, []int{0, 0}, api.ErrArg},
		{[]int{-1}, []int{-1}, api.ErrArg},
		{[]int{0, 0}, []int{0, 0}, api.ErrArg},
	}
	for _, c := range cases {
		if steps, e := perm.Steps(c.a, c.b); e != c.e || len(steps) != 0 {
			t.Errorf("Steps(%v, %v) = %v, %d; want %d", c.a, c.b, steps, e, c.e)
		}
	}
}

func TestArgumentsStayAsTheyAre(t *testing.T) {
	whole := []int{2, 0, 1, 3, 9}
	a, b := whole[:4], []int{3, 1, 0, 2}
	steps, _ := perm.Steps(a, b)
	results := [][]int{steps, perm.Inverse(a), perm.Swap(a, 0), perm.Swap(a, 3), perm.Move(a, 0, 2), perm.Move(a, 2, 0), perm.Move(a, 1, 1), perm.Move(a, 0, 4), perm.Turn(a)}
	for _, l := range results {
		for i := range l {
			l[i] = 100
		}
	}
	if !slices.Equal(whole, []int{2, 0, 1, 3, 9}) || !slices.Equal(b, []int{3, 1, 0, 2}) {
		t.Error(whole, b)
	}
}
