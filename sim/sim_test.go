package sim_test

import (
	"fmt"
	"math"
	"math/rand"
	"slices"
	"strings"
	"testing"

	"voussoir/api"
	"voussoir/graph"
	"voussoir/sample"
	"voussoir/sim"
)

// states returns a check that a call has answered these states.
func states(t *testing.T, about string, want ...[]int) func(l [][]int, e api.Errno) {
	return func(l [][]int, e api.Errno) {
		t.Helper()
		if !slices.EqualFunc(l, want, slices.Equal[[]int]) || e != api.OK {
			t.Fatalf("%s: %v, %d; want %v", about, l, e, want)
		}
	}
}

// fails returns a check that a call has failed with that error.
func fails(t *testing.T, about string, want api.Errno) func(l [][]int, e api.Errno) {
	return func(l [][]int, e api.Errno) {
		t.Helper()
		if len(l) != 0 || e != want {
			t.Errorf("%s: %v, %d; want %d", about, l, e, want)
		}
	}
}

const counter = "var x : 0 .. 2; init x <= 1; next x := if x = 2 then 0 else x + 1;"

func TestTheExample(t *testing.T) {
	m := sample.Model(t, counter)
	l, e := sim.Walk(m, 3, 0, 7)
	states(t, "Walk", []int{1}, []int{2}, []int{0})(l, e)
	if s, e := sim.Show(m, l); s != "x=1\nx=2\nx=0\n" || e != api.OK {
		t.Errorf("%q, %d", s, e)
	}
}

// cut returns the first most of the states with these indices.
func cut(g graph.Graph, l []int, most int) (cut [][]int) {
	for _, i := range l {
		if len(cut) < most {
			cut = append(cut, g.States[i])
		}
	}
	return cut
}

func TestRandomModels(t *testing.T) {
	r := rand.New(rand.NewSource(54))
	long, ended := 0, 0
	for range 500 {
		m := sample.Module(r)
		before := fmt.Sprint(m)
		g, e := graph.Of(m)
		if e != api.OK {
			t.Fatal(e)
		}
		for _, most := range []int{math.MinInt, -1, 0, 1, 2, len(g.Init), 1000, math.MaxInt} {
			states(t, "Starts", cut(g, g.Init, most)...)(sim.Starts(m, most))
			if len(g.States) > 0 {
				i := r.Intn(len(g.States))
				states(t, "Nexts", cut(g, g.Next[i], most)...)(sim.Nexts(m, g.States[i], most))
			}
		}
		var picks []int
		for range r.Intn(12) {
			picks = append(picks, r.Intn(200)-30)
		}
		given := slices.Clone(picks)
		want := walked(g, picks)
		l, e := sim.Walk(m, picks...)
		states(t, "Walk", want...)(l, e)
		more, e := sim.Walk(m, append(slices.Clone(picks), 5, 5)...)
		states(t, "Walk", walked(g, append(slices.Clone(picks), 5, 5))...)(more, e)
		if len(more) < len(l) || !slices.EqualFunc(more[:len(l)], l, slices.Equal) || !slices.Equal(picks, given) || fmt.Sprint(m) != before {
			t.Fatal("a walk is not continued, or an argument has changed")
		}
		if len(l) > 4 {
			long++
		} else if len(l) < len(picks) {
			ended++
		}
		for i := range l { // each state is in memory of its own
			for k := range l[i] {
				l[i][k] += 1000
			}
			states(t, "the rest", want[i+1:]...)(l[i+1:], api.OK)
		}
	}
	if long < 50 || ended < 50 {
		t.Error(long, ended)
	}
}

// walked returns the states of the path that picks select.
func walked(g graph.Graph, picks []int) (l [][]int) {
	candidates := g.Init
	for _, p := range picks {
		if len(candidates) == 0 {
			return l
		}
		if p < 0 {
			p = 0
		}
		i := candidates[p%len(candidates)]
		l = append(l, g.States[i])
		candidates = g.Next[i]
	}
	return l
}

func TestWalks(t *testing.T) {
	m := sample.Model(t, counter)
	states(t, "no picks")(sim.Walk(m))
	states(t, "negative picks", []int{0}, []int{1})(sim.Walk(m, -1, math.MinInt))
	states(t, "great picks", []int{1}, []int{2})(sim.Walk(m, math.MaxInt, math.MaxInt))
	l, e := sim.Walk(m, make([]int, api.MaxSteps)...)
	if len(l) != api.MaxSteps || e != api.OK || l[4095][0] != 0 || l[4094][0] != 2 {
		t.Error(len(l), e)
	}
	fails(t, "too many picks", api.ErrLong)(sim.Walk(m, make([]int, api.MaxSteps+1)...))
	end := sample.Model(t, "var x : 0 .. 2; init 0 < x; next x := x + 1;")
	states(t, "an end", []int{1}, []int{2})(sim.Walk(end, 0, 0, 0, 0))
	states(t, "an end", []int{2})(sim.Walk(end, 1, 0, 0, 0))
	none := sample.Model(t, "var x : bool; init false;")
	states(t, "no initial state")(sim.Walk(none, 0, 0))
	fails(t, "too many picks", api.ErrLong)(sim.Walk(none, make([]int, api.MaxSteps+1)...))
	states(t, "no variables", nil, nil)(sim.Walk(sample.Model(t, ""), 5, 5))
}

// There are as many states as may be enumerated, and each of them follows each.
func TestManyStates(t *testing.T) {
	m := sample.Model(t, "var a : 0 .. 63; var b : -32 .. 31; trans a = 0 & b = 0;")
	for _, most := range []int{api.MaxRows, math.MaxInt} {
		l, e := sim.Starts(m, most)
		if len(l) != 4096 || e != api.OK || !slices.Equal(l[4095], []int{63, 31}) {
			t.Fatal(len(l), e)
		}
		l, e = sim.Nexts(m, []int{0, 0}, most)
		if len(l) != 4096 || e != api.OK || !slices.Equal(l[1], []int{0, -31}) || !slices.IsSortedFunc(l, slices.Compare) {
			t.Fatal(len(l), e)
		}
	}
	states(t, "Nexts")(sim.Nexts(m, []int{1, 0}, 9))
	states(t, "Walk", []int{0, 0}, []int{0, -32})(sim.Walk(m, 32, 4096, 1))
}

func TestShow(t *testing.T) {
	m := sample.Model(t, "var x : -3 .. 2; var b : bool; invar b;")
	for _, x := range []struct {
		l    [][]int
		want string
		err  api.Errno
	}{
		{nil, "", api.OK},
		{[][]int{{-3, 1}, {2, 1}}, "x=-3 b=1\nx=2 b=1\n", api.OK},
		{[][]int{{99, -7}, {0, 0}, {99, -7}}, "x=99 b=-7\nx=0 b=0\nx=99 b=-7\n", api.OK}, // whatever the values are
		{[][]int{{1, 1}, {1}}, "", api.ErrForm},
		{[][]int{nil}, "", api.ErrForm},
		{[][]int{{1, 1, 1}, {1, 1}}, "", api.ErrForm},
	} {
		if s, e := sim.Show(m, x.l); s != x.want || e != x.err {
			t.Errorf("%v: %q, %d", x.l, s, e)
		}
	}
	if s, e := sim.Show(sample.Model(t, ""), [][]int{nil, {}}); s != "\n\n" || e != api.OK {
		t.Errorf("%q, %d", s, e)
	}
	line := sample.Model(t, "var abcdefghijklm : bool;") // with its value and the line feed 16 bytes
	most := slices.Repeat([][]int{{1}}, api.MaxText/16)
	if s, e := sim.Show(line, most); s != strings.Repeat("abcdefghijklm=1\n", api.MaxText/16) || e != api.OK {
		t.Error(len(s), e)
	}
	if s, e := sim.Show(line, append(most[:len(most)-1:len(most)-1], []int{10})); s != "" || e != api.ErrLong {
		t.Error(len(s), e)
	}
	if s, e := sim.Show(line, append(most, []int{1}, nil)); s != "" || e != api.ErrForm {
		t.Error(len(s), e)
	}
}

func TestWrongArguments(t *testing.T) {
	many := api.Module{Init: make([]api.Term, api.MaxParts+1)}
	for about, m := range map[string]api.Module{
		"a type": sample.Model(t, "var x : 0 .. 2; init x;"), "a name": sample.Model(t, "var x : bool; next y := x;"), "a spec": sample.Model(t, "var x : bool; spec s : EX [y];"), "a cycle": sample.Model(t, "def a := b; def b := a;"), "too many parts": many,
		"and too many states": sample.Model(t, "var a : 0 .. 63; var b : 0 .. 63; var c : bool; fair a;"),
	} {
		fails(t, about, api.ErrArg)(sim.Starts(m, 9))
		fails(t, about, api.ErrArg)(sim.Nexts(m, nil, 9))
		fails(t, about, api.ErrArg)(sim.Walk(m, make([]int, api.MaxSteps+1)...))
		if s, e := sim.Show(m, [][]int{nil}); s != "" || e != api.ErrArg {
			t.Error(about, s, e)
		}
	}
	for about, m := range map[string]api.Module{
		"4097 or more": sample.Model(t, "var a : 0 .. 63; var b : 0 .. 62; var c : bool;"), "few states": sample.Model(t, "var a : 0 .. 63; var b : 0 .. 63; var c : bool; invar a + b = 0;"), "more than are counted": sample.Model(t, "var a : 0 .. 63; var b : 0 .. 63; var c : 0 .. 63; var d : 0 .. 63; var e : 0 .. 63;"),
	} {
		fails(t, about, api.ErrMany)(sim.Starts(m, 9))
		fails(t, about, api.ErrMany)(sim.Nexts(m, nil, 9))
		fails(t, about, api.ErrMany)(sim.Walk(m, make([]int, api.MaxSteps+1)...))
		if s, e := sim.Show(m, [][]int{nil}); s != "" || e != api.ErrMany {
			t.Error(about, s, e)
		}
	}
	m := sample.Model(t, "var x : 0 .. 2; var b : bool; invar x != 1;")
	for _, s := range [][]int{nil, {0}, {1, 0}, {3, 0}, {0, 2}, {0, 0, 0}, {-1, 0}, {math.MaxInt, 0}} {
		fails(t, "no state", api.ErrState)(sim.Nexts(m, s, 9))
		fails(t, "no state", api.ErrState)(sim.Nexts(m, s, -9))
	}
}
