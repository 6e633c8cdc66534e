package enc_test

import (
	"math"
	"math/rand"
	"slices"
	"strconv"
	"testing"

	"voussoir/api"
	"voussoir/enc"
)

func truth(name string) api.Var              { return api.Var{Name: name, Bool: true} }
func number(name string, lo, hi int) api.Var { return api.Var{Name: name, Lo: lo, Hi: hi} }

// layout returns the layout for valid variables.
func layout(t *testing.T, vars ...api.Var) enc.Layout {
	t.Helper()
	l, e := enc.Of(vars)
	if e != api.OK {
		t.Fatalf("%v: %d", vars, e)
	}
	return l
}

// bitsOf returns the bits of which s consists, 1 for true.
func bitsOf(s string) (b []bool) {
	for _, c := range s {
		b = append(b, c == '1')
	}
	return b
}

func TestTheExamples(t *testing.T) {
	l := layout(t, truth("a"), number("n", -1, 3))
	if !slices.Equal(l.Bits, []int{1, 3}) || !slices.Equal(l.At, []int{0, 1}) {
		t.Error(l)
	}
	if b, e := l.Code([]int{1, 2}); !slices.Equal(b, bitsOf("1110")) || e != api.OK {
		t.Error(b, e)
	}
	if s, e := l.State(bitsOf("1101")); len(s) != 0 || e != api.ErrState {
		t.Error(s, e)
	}
	if now, next := l.Now(1), l.Next(1); !slices.Equal(now, []int{2, 4, 6}) || !slices.Equal(next, []int{3, 5, 7}) {
		t.Error(now, next)
	}
}

func TestWidths(t *testing.T) {
	for _, x := range []struct{ span, bits int }{{1, 0}, {2, 1}, {3, 2}, {4, 2}, {5, 3}, {8, 3}, {9, 4}, {16, 4}, {17, 5}, {32, 5}, {33, 6}, {64, 6}} {
		for _, lo := range []int{-255, -1, 0, 100, 256 - x.span} {
			l := layout(t, truth("b"), number("n", lo, lo+x.span-1), truth("c"))
			if !slices.Equal(l.Bits, []int{1, x.bits, 1}) || !slices.Equal(l.At, []int{0, 1, 1 + x.bits}) || l.Total() != 2+x.bits {
				t.Errorf("%v: %v", x, l)
			}
		}
	}
}

// states returns all states of variables, the first ones varying slowest.
func states(vars []api.Var) [][]int {
	l := [][]int{{}}
	for _, v := range vars {
		lo, hi := v.Lo, v.Hi
		if v.Bool {
			lo, hi = 0, 1
		}
		var longer [][]int
		for _, s := range l {
			for n := lo; n <= hi; n++ {
				longer = append(longer, append(slices.Clone(s), n))
			}
		}
		l = longer
	}
	return l
}

// someVars returns variables with few states.
func someVars(r *rand.Rand) (vars []api.Var) {
	for i := range r.Intn(6) {
		v := truth("v" + strconv.Itoa(i))
		if r.Intn(2) == 0 {
			lo := r.Intn(400) - 200
			v = number(v.Name, lo, lo+r.Intn(6))
		}
		vars = append(vars, v)
	}
	return vars
}

// Each state has its own bits, and all other bits are refused.
func TestStatesAndBits(t *testing.T) {
	r := rand.New(rand.NewSource(37))
	for range 100 {
		vars := someVars(r)
		given := slices.Clone(vars)
		l := layout(t, vars...)
		if !slices.Equal(l.Vars, vars) || len(l.Bits) != len(vars) || len(l.At) != len(vars) {
			t.Fatal(l)
		}
		codes := map[string]bool{}
		for _, s := range states(vars) {
			before := slices.Clone(s)
			b, e := l.Code(s)
			if e != api.OK || len(b) != l.Total() || !slices.Equal(s, before) {
				t.Fatal(s, b, e)
			}
			for i, v := range vars {
				n := 0
				for k := range l.Bits[i] {
					if b[l.At[i]+k] {
						n |= 1 << k
					}
				}
				if n != s[i]-v.Lo {
					t.Fatal(s, b)
				}
			}
			codes[text(b)] = true
			if back, e := l.State(b); !slices.Equal(back, s) || e != api.OK {
				t.Fatal(s, b, back, e)
			}
		}
		for n := range 1 << l.Total() {
			b := make([]bool, l.Total())
			for k := range b {
				b[k] = n>>k&1 == 1
			}
			s, e := l.State(b)
			if codes[text(b)] != (e == api.OK) || e != api.OK && (e != api.ErrState || len(s) != 0) {
				t.Fatal(b, s, e)
			}
			if e != api.OK {
				continue
			}
			if again, e := l.Code(s); !slices.Equal(again, b) || e != api.OK {
				t.Fatal(b, s, again, e)
			}
		}
		if !slices.Equal(vars, given) {
			t.Fatal("the argument has changed")
		}
	}
}

// text returns bits as a string.
func text(b []bool) (s string) {
	for _, yes := range b {
		if yes {
			s += "1"
		} else {
			s += "0"
		}
	}
	return s
}

// No two variables share a bit, and the bits of both states lie side by side.
func TestManagerVariables(t *testing.T) {
	r := rand.New(rand.NewSource(38))
	for range 300 {
		vars := someVars(r)
		l := layout(t, vars...)
		var now, next []int
		for i := range vars {
			a, b := l.Now(i), l.Next(i)
			if len(a) != l.Bits[i] || len(b) != l.Bits[i] {
				t.Fatal(vars, i, a, b)
			}
			for k := range a {
				if a[k] != 2*(l.At[i]+k) || b[k] != a[k]+1 {
					t.Fatal(vars, i, a, b)
				}
			}
			now, next = append(now, a...), append(next, b...)
		}
		if !slices.Equal(l.AllNow(), now) || !slices.Equal(l.AllNext(), next) || len(now) != l.Total() {
			t.Fatal(vars, l.AllNow(), l.AllNext())
		}
		for k := range now {
			if now[k] != 2*k {
				t.Fatal(now)
			}
		}
		for _, i := range []int{-1, len(vars), len(vars) + 1, math.MinInt, math.MaxInt} {
			if len(l.Now(i)) != 0 || len(l.Next(i)) != 0 {
				t.Fatal(i)
			}
		}
	}
}

func TestIndex(t *testing.T) {
	l := layout(t, truth("a"), number("n", 0, 5), truth("aa"), number("z", 7, 7))
	for name, want := range map[string]int{"a": 0, "n": 1, "aa": 2, "z": 3, "": -1, "b": -1, "N": -1, "nn": -1} {
		if got := l.Index(name); got != want {
			t.Errorf("%q: %d; want %d", name, got, want)
		}
	}
	if got := layout(t).Index("a"); got != -1 {
		t.Error(got)
	}
}

func TestWrongVariables(t *testing.T) {
	var bools []api.Var
	for i := range api.MaxBits {
		bools = append(bools, truth("b"+strconv.Itoa(i)))
	}
	for _, x := range []struct {
		vars []api.Var
		want api.Errno
	}{
		{nil, api.OK},
		{bools, api.OK},
		{append(bools[:30:30], number("z", 5, 5)), api.OK},
		{append(bools[:30:30], truth("x")), api.ErrMany},
		{append(bools[:25:25], number("n", 0, 32)), api.ErrMany},
		{append(bools[:25:25], number("n", 0, 31)), api.OK},
		{append(bools[:30:30], truth("x"), truth("b0")), api.ErrTwice},
		{append(bools[:30:30], truth("x"), truth("")), api.ErrName},
		{append(bools[:30:30], truth("x"), number("y", 1, 0)), api.ErrRange},
		{append(bools[:30:30], truth("x"), api.Var{Name: "y", Bool: true, Hi: 1}), api.ErrForm},
		{[]api.Var{truth("a"), truth("next")}, api.ErrName},
		{[]api.Var{number("a", 0, 64)}, api.ErrRange},
		{[]api.Var{number("a", 0, math.MaxInt)}, api.ErrRange},
		{[]api.Var{number("a", math.MinInt, math.MaxInt)}, api.ErrRange},
		{[]api.Var{number("a", 200, 256)}, api.ErrRange},
		{[]api.Var{number("a", 2, 1), truth("")}, api.ErrRange},
	} {
		l, e := enc.Of(x.vars)
		if e != x.want || e != api.OK && len(l.Vars)+len(l.Bits)+len(l.At) > 0 {
			t.Errorf("%v: %v, %d; want %d", x.vars, l, e, x.want)
		}
	}
}

func TestWrongStatesAndBits(t *testing.T) {
	l := layout(t, truth("a"), number("n", -1, 3), number("z", 7, 7))
	for _, s := range [][]int{nil, {0, 0}, {0, 0, 7, 0}, {2, 0, 7}, {-1, 0, 7}, {1, -2, 7}, {1, 4, 7}, {1, 3, 6}, {1, 3, 8}, {math.MaxInt, 0, 7}, {0, math.MinInt, 7}} {
		if b, e := l.Code(s); len(b) != 0 || e != api.ErrState {
			t.Errorf("%v: %v, %d", s, b, e)
		}
	}
	for s, want := range map[string]api.Errno{"": api.ErrForm, "000": api.ErrForm, "00000": api.ErrForm, "11111": api.ErrForm, "0101": api.ErrState, "1011": api.ErrState, "1111": api.ErrState, "1001": api.OK} {
		if n, e := l.State(bitsOf(s)); e != want || e != api.OK && len(n) != 0 {
			t.Errorf("%s: %v, %d; want %d", s, n, e, want)
		}
	}
}

func TestNoVariables(t *testing.T) {
	for _, l := range []enc.Layout{layout(t), layout(t, number("z", 7, 7))} {
		if l.Total() != 0 || len(l.AllNow()) != 0 || len(l.AllNext()) != 0 || len(l.Now(0)) != 0 || len(l.Next(0)) != 0 {
			t.Error(l)
		}
		s, e := l.State(nil)
		if e != api.OK || len(s) != len(l.Vars) {
			t.Error(s, e)
		}
		if b, e := l.Code(s); len(b) != 0 || e != api.OK {
			t.Error(b, e)
		}
	}
}

// A layout keeps neither the list that it was made of nor what it has handed out.
func TestMemory(t *testing.T) {
	vars := []api.Var{truth("a"), number("n", -1, 3)}
	l := layout(t, vars...)
	vars[1] = truth("x")
	l.Now(1)[0], l.Next(1)[0], l.AllNow()[0], l.AllNext()[0] = 99, 99, 99, 99
	if l.Index("n") != 1 || l.Now(1)[0] != 2 || l.Next(1)[0] != 3 || l.AllNow()[0] != 0 || l.AllNext()[0] != 1 {
		t.Error(l)
	}
}
