package given_test

import (
	"math"
	"slices"
	"testing"

	"voussoir/api"
	"voussoir/dd"
	"voussoir/given"
)

func TestFlaw(t *testing.T) {
	m, e := dd.New(3, 10)
	if e != api.OK {
		t.Fatal(e)
	}
	h, e := m.Var(0)
	if e != api.OK {
		t.Fatal(e)
	}
	for _, x := range []struct {
		m             *dd.Man
		handles, vars []int
		want          api.Errno
	}{
		{nil, nil, nil, api.ErrNone},
		{nil, []int{9}, []int{9}, api.ErrNone},
		{m, nil, nil, api.OK},
		{m, []int{0, 1, h, h}, []int{2, 0, 1, 1}, api.OK},
		{m, []int{h, h + 1}, nil, api.ErrHandle},
		{m, []int{-1}, nil, api.ErrHandle},
		{m, []int{math.MinInt, h}, []int{0}, api.ErrHandle},
		{m, []int{h, math.MaxInt}, []int{3}, api.ErrHandle},
		{m, nil, []int{3}, api.ErrVar},
		{m, []int{h}, []int{0, -1}, api.ErrVar},
		{m, nil, []int{math.MaxInt}, api.ErrVar},
		{m, nil, []int{math.MinInt, 0}, api.ErrVar},
	} {
		if got := given.Flaw(x.m, x.handles, x.vars); got != x.want {
			t.Errorf("%v, %v: %d; want %d", x.handles, x.vars, got, x.want)
		}
	}
	m.Drop(h)
	if got := given.Flaw(m, []int{h}, nil); got != api.ErrHandle {
		t.Error(got)
	}
}

func TestLiterals(t *testing.T) {
	m, e := dd.New(3, 10)
	if e != api.OK {
		t.Fatal(e)
	}
	no := func(v int) api.Lit { return api.Lit{Var: v} }
	yes := func(v int) api.Lit { return api.Lit{Var: v, Yes: true} }
	for _, x := range []struct {
		m       *dd.Man
		handles []int
		l       []api.Lit
		want    api.Errno
	}{
		{nil, []int{9}, []api.Lit{no(9), no(9)}, api.ErrNone},
		{m, nil, nil, api.OK},
		{m, []int{1, 0}, []api.Lit{yes(2), no(0), yes(1)}, api.OK},
		{m, []int{1, 2}, []api.Lit{no(3), no(3)}, api.ErrHandle},
		{m, []int{1}, []api.Lit{no(1), yes(1), no(3)}, api.ErrVar},
		{m, []int{1}, []api.Lit{no(-1)}, api.ErrVar},
		{m, []int{1}, []api.Lit{no(1), yes(0), yes(1)}, api.ErrTwice},
		{m, nil, []api.Lit{yes(2), yes(2)}, api.ErrTwice},
	} {
		if got := given.Literals(x.m, x.handles, x.l); got != x.want {
			t.Errorf("%v, %v: %d; want %d", x.handles, x.l, got, x.want)
		}
	}
}

func TestDistinct(t *testing.T) {
	m, e := dd.New(3, 10)
	if e != api.OK {
		t.Fatal(e)
	}
	for _, x := range []struct {
		m             *dd.Man
		handles, vars []int
		want          api.Errno
	}{
		{nil, []int{9}, []int{9, 9}, api.ErrNone},
		{m, nil, nil, api.OK},
		{m, []int{1, 1}, []int{2, 0, 1}, api.OK},
		{m, []int{1, 2}, []int{3, 3}, api.ErrHandle},
		{m, []int{1}, []int{1, 1, 3}, api.ErrVar},
		{m, []int{1}, []int{1, 0, 1}, api.ErrTwice},
	} {
		before := slices.Clone(x.vars)
		if got := given.Distinct(x.m, x.handles, x.vars); got != x.want || !slices.Equal(x.vars, before) {
			t.Errorf("%v, %v: %d; want %d", x.handles, x.vars, got, x.want)
		}
	}
}

func TestEmpty(t *testing.T) {
	m, e := dd.New(3, 10)
	if e != api.OK {
		t.Fatal(e)
	}
	h, e := m.Var(0)
	if e != api.OK {
		t.Fatal(e)
	}
	never, e := m.Ite(h, 0, 0)
	if e != api.OK {
		t.Fatal(e)
	}
	for f, want := range map[int]api.Errno{0: api.ErrEmpty, never: api.ErrEmpty, 1: api.OK, h: api.OK, -1: api.ErrHandle, never + 1: api.ErrHandle} {
		if got := given.Empty(m, f); got != want {
			t.Errorf("%d: %d; want %d", f, got, want)
		}
	}
	if got := given.Empty(nil, 0); got != api.ErrNone {
		t.Error(got)
	}
}
