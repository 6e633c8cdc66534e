package blast_test

import (
	"math"
	"slices"
	"testing"

	"voussoir/api"
	"voussoir/blast"
	"voussoir/dd"
	"voussoir/enc"
	"voussoir/trial"
	"voussoir/ttext"
)

func truth(name string) api.Var              { return api.Var{Name: name, Bool: true} }
func number(name string, lo, hi int) api.Var { return api.Var{Name: name, Lo: lo, Hi: hi} }

// term returns the term of a text.
func term(t *testing.T, s string) api.Term {
	t.Helper()
	x, at, e := ttext.Parse(s)
	if e != api.OK {
		t.Fatalf("%s: %d at %d", s, e, at)
	}
	return x
}

// layout returns the layout for valid variables.
func layout(t *testing.T, vars ...api.Var) enc.Layout {
	t.Helper()
	l, e := enc.Of(vars)
	if e != api.OK {
		t.Fatalf("%v: %d", vars, e)
	}
	return l
}

func TestTheExample(t *testing.T) {
	l := layout(t, number("n", 0, 2))
	w := trial.New(t, nil, 4, trial.Enough(4, 2))
	low, high := w.Variable(0), w.Variable(2)
	var is []uint64 // where n has a value, and where its next one is that
	var becomes []uint64
	for k := range 3 {
		here, there := w.All(), w.All()
		for bit := range 2 {
			if k>>bit&1 == 1 {
				here, there = here&w.Variable(2*bit), there&w.Variable(2*bit+1)
			} else {
				here, there = here&^w.Variable(2*bit), there&^w.Variable(2*bit+1)
			}
		}
		is, becomes = append(is, here), append(becomes, there)
	}
	w.Has("Valid", ^(low & high))(blast.Valid(w.M, l, false))
	c, e := blast.Cases(w.M, l, term(t, "n + 1"))
	if e != api.OK || len(c) != 3 {
		t.Fatal(c, e)
	}
	for k := range 3 {
		if c[k].N != k+1 || w.Table(c[k].H) != is[k] {
			t.Errorf("%d: %v, %x; want %x", k, c[k], w.Table(c[k].H), is[k])
		}
		w.M.Drop(c[k].H)
	}
	h := w.Right(blast.Equal(w.M, l, 0, term(t, "n + 1")))
	if got := w.Table(h) & (is[0] | is[1] | is[2]); got != is[0]&becomes[1]|is[1]&becomes[2] {
		t.Errorf("Equal: %x", got)
	}
}

func TestState(t *testing.T) {
	l := layout(t, number("n", -1, 3), truth("b"), number("k", 7, 7))
	w := trial.New(t, nil, 8, trial.Enough(8, 2))
	for n := -1; n <= 3; n++ {
		for b := range 2 {
			for _, next := range []bool{false, true} {
				h := w.Right(blast.State(w.M, l, []int{n, b, 7}, next))
				for code := range 256 {
					want := true
					for bit, yes := range []bool{(n+1)&1 == 1, (n+1)&2 == 2, (n+1)&4 == 4, b == 1} {
						place := 2 * bit
						if next {
							place++
						}
						want = want && code>>place&1 == 1 == yes
					}
					if got, _ := w.M.Eval(h, w.Assignment(code)); got != want {
						t.Fatal(n, b, next, code, got)
					}
				}
				w.M.Drop(h)
			}
		}
	}
	w.Fails("State", api.ErrState)(blast.State(w.M, l, []int{4, 0, 7}, false))
	w.Fails("State", api.ErrState)(blast.State(w.M, l, []int{0, 0, 6}, true))
	w.Fails("State", api.ErrState)(blast.State(w.M, l, []int{0, 2, 7}, true))
	w.Fails("State", api.ErrState)(blast.State(w.M, l, []int{0, 0}, true))
	w.Fails("State", api.ErrState)(blast.State(w.M, l, nil, false))
	w.Fails("State", api.ErrState)(blast.State(w.M, l, []int{0, 0, 7, 0}, false))
	w.Fails("State", api.ErrState)(blast.State(w.M, l, []int{math.MaxInt, 0, 7}, false))
}

// failure is a call with the error that it is to end with.
type failure struct {
	want api.Errno
	h    int
	e    api.Errno
}

func casesOf(m *dd.Man, l enc.Layout, t api.Term) (many int, e api.Errno) {
	c, e := blast.Cases(m, l, t)
	return len(c), e
}

func TestWrongArguments(t *testing.T) {
	l := layout(t, number("n", 0, 2), truth("b"), number("k", 0, 0))
	w := trial.New(t, nil, 6, 2000)
	n, b, later, odd, wide := term(t, "n"), term(t, "b"), term(t, "next(n)"), term(t, "x + b"), term(t, "n * 255 * 255")
	c, q := func(m *dd.Man, t api.Term) func() (int, api.Errno) {
		return func() (int, api.Errno) { return casesOf(m, l, t) }
	}, func(m *dd.Man, t api.Term) func() (int, api.Errno) {
		return func() (int, api.Errno) { return blast.Truth(m, l, t) }
	}
	equal := func(m *dd.Man, i int, t api.Term) func() (int, api.Errno) {
		return func() (int, api.Errno) { return blast.Equal(m, l, i, t) }
	}
	small, none := trial.New(t, nil, 5, 2000).M, (*dd.Man)(nil)
	for i, x := range []struct {
		call func() (int, api.Errno)
		want api.Errno
	}{
		{c(none, odd), api.ErrNone}, {q(none, odd), api.ErrNone}, {equal(none, 9, odd), api.ErrNone},
		{c(small, odd), api.ErrVar}, {q(small, odd), api.ErrVar}, {equal(small, 9, odd), api.ErrVar},
		{func() (int, api.Errno) { return blast.Valid(none, l, true) }, api.ErrNone},
		{func() (int, api.Errno) { return blast.Valid(small, l, true) }, api.ErrVar},
		{func() (int, api.Errno) { return blast.State(none, l, nil, true) }, api.ErrNone},
		{func() (int, api.Errno) { return blast.State(small, l, nil, true) }, api.ErrVar},
		{c(w.M, odd), api.ErrName}, {q(w.M, odd), api.ErrName}, {equal(w.M, 0, odd), api.ErrName}, {equal(w.M, 3, odd), api.ErrRange},
		{c(w.M, api.Term{}), api.ErrKind}, {q(w.M, api.Term{}), api.ErrKind}, {equal(w.M, 0, api.Term{}), api.ErrKind},
		{c(w.M, wide), api.ErrRange}, {q(w.M, wide), api.ErrRange}, {equal(w.M, 0, wide), api.ErrRange},
		{c(w.M, term(t, "n + b")), api.ErrType}, {q(w.M, term(t, "n & b")), api.ErrType}, {equal(w.M, 0, term(t, "n + b")), api.ErrType},
		{c(w.M, b), api.ErrType}, {q(w.M, n), api.ErrType},
		{equal(w.M, 0, b), api.ErrType}, {equal(w.M, 1, n), api.ErrType}, {equal(w.M, 2, b), api.ErrType},
		{equal(w.M, 0, later), api.ErrPlace}, {equal(w.M, 1, later), api.ErrPlace}, {equal(w.M, 1, term(t, "next(b)")), api.ErrPlace},
		{equal(w.M, -1, n), api.ErrRange}, {equal(w.M, 3, n), api.ErrRange}, {equal(w.M, math.MaxInt, odd), api.ErrRange}, {equal(w.M, math.MinInt, later), api.ErrRange},
	} {
		h, e := x.call()
		if h != 0 || e != x.want || w.M.Handles() != 2 || small.Handles() != 2 {
			t.Errorf("%d: %d, %d; want %d", i, h, e, x.want)
		}
	}
}

// Without variables there are still terms, and one state.
func TestNoVariables(t *testing.T) {
	w := trial.New(t, nil, 0, 1)
	for _, l := range []enc.Layout{layout(t), {}, layout(t, number("k", -9, -9))} {
		for _, next := range []bool{false, true} {
			w.Has("Valid", 1)(blast.Valid(w.M, l, next))
		}
		w.Has("Truth", 1)(blast.Truth(w.M, l, term(t, "2 * 3 = 6")))
		w.Has("Truth", 0)(blast.Truth(w.M, l, term(t, "2 * 3 = 5")))
		if c, e := blast.Cases(w.M, l, term(t, "(0 - 7) mod 4")); len(c) != 1 || c[0].N != 1 || w.Table(c[0].H) != 1 || e != api.OK {
			t.Error(c, e)
		}
	}
	w.Has("State", 1)(blast.State(w.M, enc.Layout{}, nil, false))
	l := layout(t, number("k", -9, -9))
	w.Has("State", 1)(blast.State(w.M, l, []int{-9}, true))
	w.Has("Equal", 1)(blast.Equal(w.M, l, 0, term(t, "0 - 9")))
	w.Has("Equal", 0)(blast.Equal(w.M, l, 0, term(t, "0")))
	w.Has("Truth", 1)(blast.Truth(w.M, l, term(t, "next(k) = k")))
}

// Each result is a handle of its own, even where two are equal or constant.
func TestHandles(t *testing.T) {
	l := layout(t, number("n", 0, 1), truth("b"))
	w := trial.New(t, nil, 4, 2000)
	for _, s := range []string{"n", "next(n)", "5", "if b then n else 3", "n * 0"} {
		before := w.M.Handles()
		c, e := blast.Cases(w.M, l, term(t, s))
		var handles []int
		for _, k := range c {
			handles = append(handles, w.Right(k.H, e))
		}
		slices.Sort(handles)
		if len(slices.Compact(handles)) != len(c) || w.M.Handles() != before+len(c) {
			t.Error(s, c, w.M.Handles())
		}
	}
	for _, s := range []string{"b", "true", "false", "n = n", "n < 0", "!b", "b | !b"} {
		before := w.M.Handles()
		w.Right(blast.Truth(w.M, l, term(t, s)))
		if w.M.Handles() != before+1 {
			t.Error(s, w.M.Handles())
		}
	}
}

// A value that a term has only where bits encode none is omitted.
func TestValuesThatNothingHas(t *testing.T) {
	l := layout(t, number("n", 0, 2), number("k", 0, 4))
	w := trial.New(t, nil, 10, 20000)
	for s, want := range map[string][]int{
		"if n < 3 then 1 else 2":                             {1},
		"if n = n then n else 7":                             {0, 1, 2},
		"if next(n) <= 2 & k <= 4 then 5 else 6":             {5},
		"if !(k < 5) then 1 else if n < 0 then 2 else n + 3": {3, 4, 5},
		"n * k":                              {0, 1, 2, 3, 4, 6, 8},
		"n - n":                              {0},
		"n + next(n)":                        {0, 1, 2, 3, 4},
		"k mod 3 * 10":                       {0, 10, 20},
		"(0 - k) mod 2 - 1":                  {-1, 0},
		"if k = 3 then 200 else 0 - 200":     {-200, 200},
		"if n = 3 then 200 else k":           {0, 1, 2, 3, 4},
		"if n = 3 | k = 3 then 200 else k":   {0, 1, 2, 4, 200},
		"if n + k = 7 then 1 else n + k - 1": {-1, 0, 1, 2, 3, 4, 5},
	} {
		c, e := blast.Cases(w.M, l, term(t, s))
		var got []int
		for _, k := range c {
			got = append(got, k.N)
			w.M.Drop(k.H)
		}
		if e != api.OK || !slices.Equal(got, want) {
			t.Errorf("%s: %v, %d; want %v", s, got, e, want)
		}
	}
}
