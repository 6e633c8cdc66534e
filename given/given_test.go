package given_test

import (
	"math"
	"testing"

	"voussoir/api"
	"voussoir/dd"
	"voussoir/given"
)

func TestFlaw(t *testing.T) {
	m, e := dd.New(3, 10)
	if e != api.OK {
		t.Fatal(e)
	}
	h, e := m.Var(0)
	if e != api.OK {
		t.Fatal(e)
	}
	for _, x := range []struct {
		m             *dd.Man
		handles, vars []int
		want          api.Errno
	}{
		{nil, nil, nil, api.ErrNone},
		{nil, []int{9}, []int{9}, api.ErrNone},
		{m, nil, nil, api.OK},
		{m, []int{0, 1, h, h}, []int{2, 0, 1, 1}, api.OK},
		{m, []int{h, h + 1}, nil, api.ErrHandle},
		{m, []int{-1}, nil, api.ErrHandle},
		{m, []int{math.MinInt, h}, []int{0}, api.ErrHandle},
		{m, []int{h, math.MaxInt}, []int{3}, api.ErrHandle},
		{m, nil, []int{3}, api.ErrVar},
		{m, []int{h}, []int{0, -1}, api.ErrVar},
		{m, nil, []int{math.MaxInt}, api.ErrVar},
		{m, nil, []int{math.MinInt, 0}, api.ErrVar},
	} {
		if got := given.Flaw(x.m, x.handles, x.vars); got != x.want {
			t.Errorf("%v, %v: %d; want %d", x.handles, x.vars, got, x.want)
		}
	}
	m.Drop(h)
	if got := given.Flaw(m, []int{h}, nil); got != api.ErrHandle {
		t.Error(got)
	}
}
