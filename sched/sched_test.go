package sched_test

import (
	"math"
	"slices"
	"testing"

	"voussoir/sched"
)

type steps = []sched.Step

func step(part int, out ...int) sched.Step { return sched.Step{Part: part, Out: out} }

func equal(a, b steps) bool {
	return slices.EqualFunc(a, b, func(x, y sched.Step) bool { return x.Part == y.Part && slices.Equal(x.Out, y.Out) })
}

func plan(t *testing.T, parts [][]int, out []int, want ...sched.Step) {
	t.Helper()
	got := sched.Plan(parts, out)
	if !equal(got, want) {
		t.Errorf("Plan(%v, %v) = %v; want %v", parts, out, got, want)
	}
	if !sched.Right(parts, out, got) {
		t.Errorf("Plan(%v, %v) = %v is not correct", parts, out, got)
	}
}

func TestPlan(t *testing.T) {
	plan(t, [][]int{{0, 1}, {1, 2}, {2}}, []int{1, 2, 5}, step(2, 5), step(1, 2), step(0, 1))
	plan(t, nil, nil)
	plan(t, nil, []int{1, 2})
	plan(t, [][]int{nil}, nil, step(0))
	plan(t, [][]int{{3, 1, 3, 2}}, []int{9, 3, 1, 9, -4, 3}, step(0, -4, 1, 3, 9))
	plan(t, [][]int{nil, nil, nil}, []int{2, 1}, step(0, 1, 2), step(1), step(2))
	plan(t, [][]int{{1}, {1}}, nil, step(0), step(1))
	plan(t, [][]int{{1}, {1}}, []int{1}, step(0), step(1, 1))
	plan(t, [][]int{{math.MaxInt, math.MinInt}, {math.MinInt}}, []int{math.MinInt, math.MaxInt}, step(0, math.MaxInt), step(1, math.MinInt))
}

func TestPlanPrefers(t *testing.T) {
	// Most variables of out to itself, though it brings more variables.
	plan(t, [][]int{{0}, {1, 2, 3, 4}, {5}}, []int{1, 2, 0}, step(1, 1, 2), step(0, 0), step(2))
	// A variable to itself that is not in out does not count.
	plan(t, [][]int{{6, 7, 8}, {1, 9}}, []int{1}, step(1, 1), step(0))
	// The fewest variables that occur in no earlier part, those of out or not.
	plan(t, [][]int{{1, 2, 3}, {3, 4}, {5, 6}}, nil, step(1), step(0), step(2))
	plan(t, [][]int{{0, 1, 2}, {0, 1}, {0, 1, 2, 3}, {3, 9, 8}}, nil, step(1), step(0), step(2), step(3))
	plan(t, [][]int{{1, 2}, {1}, {2, 1, 3}, {3}}, []int{1, 2, 3}, step(1), step(0), step(2, 1, 2), step(3, 3))
	// A repeated variable counts once.
	plan(t, [][]int{{1, 2}, {3, 3, 3}}, nil, step(1), step(0))
	plan(t, [][]int{{1, 1, 4}, {2, 3, 4}}, []int{1, 2, 3, 2}, step(1, 2, 3), step(0, 1))
	// The least index.
	plan(t, [][]int{{4}, {3}, {2}, {1}}, []int{1, 2, 3, 4}, step(0, 4), step(1, 3), step(2, 2), step(3, 1))
}

// some makes lists of variables, one after the other.
type some struct{ seed uint32 }

func (s *some) number(below int) int {
	s.seed = s.seed*1664525 + 1013904223
	return int(s.seed>>16) % below
}

func (s *some) list(vars int) []int {
	var l []int
	for range s.number(5) {
		l = append(l, s.number(vars)-1)
	}
	return l
}

func (s *some) parts(vars int) [][]int {
	var l [][]int
	for range s.number(7) {
		l = append(l, s.list(vars))
	}
	return l
}

// rank tells how a part stands among those left: a greater rank is better.
func rank(parts [][]int, out []int, order []int, part int) [3]int {
	alone, fresh := 0, 0
	for v := range 20 {
		if !slices.Contains(parts[part], v-5) {
			continue
		}
		left, early := 0, 0
		for i, p := range parts {
			if slices.Contains(p, v-5) && slices.Contains(order, i) {
				early++
			} else if slices.Contains(p, v-5) {
				left++
			}
		}
		if left == 1 && slices.Contains(out, v-5) {
			alone++
		}
		if early == 0 {
			fresh++
		}
	}
	return [3]int{alone, -fresh, -part}
}

// planned answers as the chapter tells it, for variables from -5 to 14.
func planned(parts [][]int, out []int) steps {
	var order []int
	for range parts {
		chosen := -1
		for i := range parts {
			if slices.Contains(order, i) {
				continue
			}
			if chosen < 0 {
				chosen = i
			}
			a, b := rank(parts, out, order, i), rank(parts, out, order, chosen)
			if slices.Compare(a[:], b[:]) > 0 {
				chosen = i
			}
		}
		order = append(order, chosen)
	}
	l := make(steps, len(order))
	for i, part := range order {
		l[i].Part = part
	}
	for v := -5; v < 15 && len(l) > 0; v++ {
		last := 0
		for i, part := range order {
			if slices.Contains(parts[part], v) {
				last = i
			}
		}
		if slices.Contains(out, v) {
			l[last].Out = append(l[last].Out, v)
		}
	}
	return l
}

func TestPlanOfMany(t *testing.T) {
	s := &some{5}
	for range 3000 {
		vars := 2 + s.number(7)
		parts, out := s.parts(vars), append(s.list(vars), s.list(vars)...)
		plan(t, parts, out, planned(parts, out)...)
	}
}

func TestPlanOfManyParts(t *testing.T) {
	var parts [][]int
	var out []int
	for i := range 300 {
		parts = append(parts, []int{i, i + 1, i + 2})
		out = append(out, i)
	}
	l := sched.Plan(parts, out)
	if !sched.Right(parts, out, l) || sched.Widest(parts, out, l) != 3 {
		t.Error(sched.Right(parts, out, l), sched.Widest(parts, out, l))
	}
}

func right(t *testing.T, parts [][]int, out []int, want bool, l ...sched.Step) {
	t.Helper()
	if sched.Right(parts, out, l) != want {
		t.Errorf("Right(%v, %v, %v) = %v", parts, out, l, !want)
	}
}

func TestRight(t *testing.T) {
	parts, out := [][]int{{0, 1}, {1, 2}, {2}}, []int{2, 1, 5, 1}
	right(t, parts, out, true, step(2, 5), step(1, 2), step(0, 1))
	right(t, parts, out, true, step(0), step(1), step(2, 2, 5, 1))
	right(t, parts, out, true, step(0, 5), step(1, 1, 1), step(2, 2, 2, 2))
	right(t, parts, nil, true, step(0), step(1), step(2))
	right(t, parts, out, false, step(0, 1), step(1, 2, 5), step(2))
	right(t, parts, out, false, step(0, 2), step(1, 1, 5), step(2))
	right(t, parts, out, false, step(0, 5), step(1, 1), step(2))
	right(t, parts, out, false, step(0), step(1, 1), step(2, 2))
	right(t, parts, out, false, step(0, 5), step(1, 1), step(2, 2, 5))
	right(t, parts, out, false, step(0, 5), step(1, 1), step(2, 2, 1))
	right(t, parts, out, false, step(0, 5), step(1, 1), step(2, 2, 0))
	right(t, parts, out, false, step(0, 5), step(1, 1), step(2, 2, 7))
	right(t, parts, nil, false, step(0), step(1), step(2, 2))
	right(t, parts, out, false, step(0, 5), step(1, 1, 2))
	right(t, parts, out, false, step(0, 5), step(1, 1), step(2, 2), step(2))
	right(t, parts, out, false, step(0, 5), step(0, 1), step(2, 2))
	right(t, parts, out, false, step(1), step(1), step(0, 1, 2, 5))
	for _, bad := range []int{-1, 3, math.MinInt, math.MaxInt} {
		right(t, parts, out, false, step(0, 5), step(1, 1), step(bad, 2))
		right(t, parts, out, false, step(bad, 5), step(1, 1), step(2, 2))
		right(t, nil, out, false, step(bad))
	}
	right(t, parts, out, false)
	right(t, nil, out, true)
	right(t, nil, nil, true)
	right(t, nil, nil, false, step(0))
	right(t, nil, []int{1}, false, step(0, 1))
	right(t, [][]int{nil}, []int{4}, true, step(0, 4))
	right(t, [][]int{nil}, []int{4}, false, step(0))
	right(t, [][]int{nil}, nil, false, step(0, 4))
}

func widths(t *testing.T, parts [][]int, l steps, live []int, widest int) {
	t.Helper()
	for _, out := range [][]int{nil, {1, 2}, {-7}} { // what is to be quantified does not matter, but what is quantified
		if got := sched.Live(parts, out, l); !slices.Equal(got, live) {
			t.Errorf("Live(%v, %v, %v) = %v; want %v", parts, out, l, got, live)
		}
		if got := sched.Widest(parts, out, l); got != widest {
			t.Errorf("Widest(%v, %v, %v) = %d; want %d", parts, out, l, got, widest)
		}
	}
}

func TestLiveAndWidest(t *testing.T) {
	parts := [][]int{{0, 1}, {1, 2}, {2}, {5, 3, 5, 5, 4}, nil}
	widths(t, parts, nil, nil, 0)
	widths(t, nil, nil, nil, 0)
	widths(t, parts, steps{step(2, 5), step(1, 2), step(0, 1)}, []int{1, 1, 1}, 2)
	widths(t, parts, steps{step(0), step(1), step(3)}, []int{2, 3, 6}, 6)
	widths(t, parts, steps{step(3, 3, 4, 5)}, []int{0}, 3)
	widths(t, parts, steps{step(4), step(4, 1)}, []int{0, 0}, 0)
	widths(t, parts, steps{step(0), step(0), step(0, 1, 1), step(0)}, []int{2, 2, 1, 1}, 2)
	// What was quantified is not live any more, but occurs in its part all the same.
	widths(t, parts, steps{step(4, 3, 4, 5), step(3), step(0)}, []int{0, 0, 2}, 3)
	widths(t, parts, steps{step(0, 0, 1), step(1)}, []int{0, 1}, 2)
	widths(t, parts, steps{step(0), step(3, 3, 4, 5, 0), step(3)}, []int{2, 1, 1}, 5)
	for _, bad := range []int{-1, 5, math.MinInt, math.MaxInt} {
		widths(t, parts, steps{step(bad)}, []int{0}, 0)
		widths(t, parts, steps{step(0), step(bad, 0), step(2)}, []int{2, 1, 2}, 2)
		widths(t, nil, steps{step(bad, 1)}, []int{0}, 0)
	}
}

// counted answers as the chapter tells it, for variables from -5 to 14.
func counted(parts [][]int, l steps) (live []int, widest int) {
	occurs := func(v, from, to int) bool {
		return slices.ContainsFunc(l[from:to], func(s sched.Step) bool {
			return s.Part >= 0 && s.Part < len(parts) && slices.Contains(parts[s.Part], v)
		})
	}
	gone := func(v, to int) bool {
		return slices.ContainsFunc(l[:to], func(s sched.Step) bool { return slices.Contains(s.Out, v) })
	}
	for i := range l {
		many, wide := 0, 0
		for v := -5; v < 15; v++ {
			if occurs(v, 0, i+1) && !gone(v, i+1) {
				many++
			}
			if occurs(v, 0, i) && !gone(v, i) || occurs(v, i, i+1) {
				wide++
			}
		}
		live, widest = append(live, many), max(widest, wide)
	}
	return live, widest
}

func TestLiveAndWidestOfMany(t *testing.T) {
	s := &some{9}
	for range 3000 {
		vars := 2 + s.number(7)
		parts := s.parts(vars)
		var l steps
		for range s.number(6) {
			l = append(l, step(s.number(len(parts)+2)-1, s.list(vars)...))
		}
		live, widest := counted(parts, l)
		widths(t, parts, l, live, widest)
		if len(live) > 0 && slices.Max(live) > widest {
			t.Errorf("%v, %v: Live %v, Widest %d", parts, l, live, widest)
		}
	}
}

func TestArgumentsStayAsTheyAre(t *testing.T) {
	whole := []int{3, 1, 3, 8, 9}
	parts, out := [][]int{whole[:3:5], {5, 4}, {4, 1}}, []int{4, 1, 5, 77}
	l := sched.Plan(parts, out)
	kept := steps{step(1, 5, 77), step(2, 4), step(0, 1)}
	if !equal(l, kept) {
		t.Fatal(l)
	}
	sched.Right(parts, out, l)
	sched.Live(parts, out, l)
	sched.Widest(parts, out, l)
	for i := range l {
		l[i].Out = append(l[i].Out, 100)
		l[i].Out[0] = 100
	}
	if !slices.Equal(whole, []int{3, 1, 3, 8, 9}) || !slices.Equal(out, []int{4, 1, 5, 77}) || !slices.Equal(parts[1], []int{5, 4}) {
		t.Error(whole, out, parts)
	}
	if !equal(sched.Plan(parts, out), kept) {
		t.Error("a change of a result is seen later")
	}
}
