package treetext_test

import (
	"math"
	"math/rand"
	"runtime"
	"slices"
	"strings"
	"testing"

	"voussoir/api"
	"voussoir/ftext"
	"voussoir/treetext"
)

var vars = []api.Var{{Name: "n", Hi: 3}, {Name: "b", Bool: true}}

func name(s string) api.Form {
	return api.Form{Op: api.FTerm, E: api.Term{Op: api.TName, Name: s}}
}

// shown checks the text of a tree.
func shown(t *testing.T, x api.Tree, lines ...string) {
	t.Helper()
	want := strings.Join(lines, "\n") + "\n"
	if s, e := treetext.Show(vars, x); s != want || e != api.OK {
		t.Errorf("%.200q, %d; want %.200q", s, e, want)
	}
}

// refused checks that there is no text of a tree.
func refused(t *testing.T, x api.Tree, want api.Errno) {
	t.Helper()
	if s, e := treetext.Show(vars, x); s != "" || e != want {
		t.Errorf("%.200q, %d; want %d", s, e, want)
	}
}

func TestTheExamples(t *testing.T) {
	if s, e := treetext.State(vars, []int{2, 1}); s != "n=2 b=1" || e != api.OK {
		t.Error(s, e)
	}
	if l, e := treetext.Lines(vars, [][]int{{0, 0}, {1, 0}}, 1); !slices.Equal(l, []string{"  n=0 b=0", "* n=1 b=0"}) || e != api.OK {
		t.Error(l, e)
	}
	shown(t, api.Tree{Kind: api.KPlain, F: name("b")}, "plain [b]")
}

func TestState(t *testing.T) {
	odd := []api.Var{{Name: ""}, {Name: "a b"}, {Name: "=", Bool: true, Lo: 9}}
	for _, x := range []struct {
		vars []api.Var
		s    []int
		want string
	}{
		{nil, nil, ""}, {vars[:1], []int{-17}, "n=-17"}, {vars, []int{0, 7}, "n=0 b=7"},
		{vars, []int{math.MinInt, math.MaxInt}, "n=-9223372036854775808 b=9223372036854775807"},
		{odd, []int{1, 2, 3}, "=1 a b=2 ==3"}, {append(vars, vars...), []int{1, 2, 3, 4}, "n=1 b=2 n=3 b=4"},
	} {
		if got, e := treetext.State(x.vars, x.s); got != x.want || e != api.OK {
			t.Errorf("%q, %d; want %q", got, e, x.want)
		}
	}
	for _, s := range [][]int{nil, {1}, {1, 2, 3}, make([]int, 99)} {
		if got, e := treetext.State(vars, s); got != "" || e != api.ErrForm {
			t.Error(s, got, e)
		}
	}
	if got, e := treetext.State(nil, []int{0}); got != "" || e != api.ErrForm {
		t.Error(got, e)
	}
}

// For names that are names, a state has a line of its own.
func TestDifferentStates(t *testing.T) {
	r := rand.New(rand.NewSource(52))
	three := append(vars, api.Var{Name: "n1"})
	met := map[string][3]int{}
	for range 20000 {
		s := [3]int{r.Intn(25) - 12, r.Intn(25) - 12, r.Intn(25) - 12}
		line, e := treetext.State(three, s[:])
		if other, found := met[line]; e != api.OK || found && other != s {
			t.Fatal(s, other, line, e)
		}
		met[line] = s
	}
}

func TestLines(t *testing.T) {
	path := [][]int{{0, 0}, {1, 1}, {2, 0}}
	for _, x := range []struct {
		loop int
		want []string
	}{
		{0, []string{"* n=0 b=0", "  n=1 b=1", "  n=2 b=0"}}, {2, []string{"  n=0 b=0", "  n=1 b=1", "* n=2 b=0"}},
		{-1, []string{"  n=0 b=0", "  n=1 b=1", "  n=2 b=0"}}, {3, []string{"  n=0 b=0", "  n=1 b=1", "  n=2 b=0"}},
		{math.MinInt, []string{"  n=0 b=0", "  n=1 b=1", "  n=2 b=0"}}, {math.MaxInt, []string{"  n=0 b=0", "  n=1 b=1", "  n=2 b=0"}},
	} {
		if l, e := treetext.Lines(vars, path, x.loop); !slices.Equal(l, x.want) || e != api.OK {
			t.Error(x.loop, l, e)
		}
	}
	for _, x := range [][][]int{{{1}}, {{0, 0}, {0}, {0, 0}}, {{0, 0}, {}}, {nil, {0, 0}}, {{0, 0}, {0, 0, 0}}} {
		if l, e := treetext.Lines(vars, x, 0); l != nil || e != api.ErrForm {
			t.Error(x, l, e)
		}
	}
	if l, e := treetext.Lines(vars, nil, 0); len(l) != 0 || e != api.OK {
		t.Error(l, e)
	}
	if l, e := treetext.Lines(nil, [][]int{{}, nil}, 1); !slices.Equal(l, []string{"  ", "* "}) || e != api.OK {
		t.Error(l, e)
	}
}

func TestKinds(t *testing.T) {
	plain := api.Tree{Kind: api.KPlain, F: name("b")}
	told := api.Tree{Kind: api.KTold, F: api.Form{Op: api.FAG, Kids: []api.Form{name("b")}}, At: 3, Path: [][]int{{1}}, Loop: 0}
	one := api.Tree{Kind: api.KOne, F: name("c"), At: 1, Path: [][]int{{1}}, Kids: []api.Tree{plain}}
	path := api.Tree{Kind: api.KPath, F: name("d"), At: -2, Loop: 0, Path: [][]int{{0, 1}, {3, 0}}, Kids: []api.Tree{one, told}}
	shown(t, plain, "plain [b]")
	shown(t, told, "told AG [b]")
	shown(t, one, "one [c] 1", "  plain [b]")
	shown(t, path, "path [d] -2", "* n=0 b=1", "  n=3 b=0", "  one [c] 1", "    plain [b]", "  told AG [b]")
	shown(t, api.Tree{Kind: api.KBoth, F: name("e"), At: 9, State: []int{1}, Kids: []api.Tree{path, plain, path}},
		"both [e]", "  path [d] -2", "  * n=0 b=1", "    n=3 b=0", "    one [c] 1", "      plain [b]", "    told AG [b]",
		"  plain [b]", "  path [d] -2", "  * n=0 b=1", "    n=3 b=0", "    one [c] 1", "      plain [b]", "    told AG [b]")
	shown(t, api.Tree{Kind: api.KPath, F: name("b"), Loop: 7}, "path [b] 0")
	shown(t, api.Tree{Kind: api.KPath, F: name("b"), Loop: 7, At: math.MinInt, Path: [][]int{{0, 0}}}, "path [b] -9223372036854775808", "  n=0 b=0")
	if s, e := treetext.Show(nil, api.Tree{Kind: api.KPath, F: name("b"), Path: [][]int{nil}}); s != "path [b] 0\n* \n" || e != api.OK {
		t.Error(s, e)
	}
}

func TestErrors(t *testing.T) {
	plain := api.Tree{Kind: api.KPlain, F: name("b")}
	wrong := []struct {
		x api.Tree
		e api.Errno
	}{
		{api.Tree{}, api.ErrKind}, {api.Tree{Kind: -1, F: name("b")}, api.ErrKind}, {api.Tree{Kind: 6, F: name("b")}, api.ErrKind}, {api.Tree{Kind: math.MaxInt}, api.ErrKind},
		{api.Tree{Kind: api.KPlain}, api.ErrKind},
		{api.Tree{Kind: api.KTold, F: name("")}, api.ErrName}, {api.Tree{Kind: api.KBoth, F: name("true")}, api.ErrForm}, {api.Tree{Kind: api.KOne, F: api.Form{Op: api.FNot}}, api.ErrForm},
		{api.Tree{Kind: api.KPath, F: name(""), Path: [][]int{{0}}}, api.ErrName}, {api.Tree{Kind: api.KPath, F: name("b"), Path: [][]int{{0, 0}, {0}}}, api.ErrForm},
		{api.Tree{Kind: 9, F: name(""), Path: [][]int{{0}}}, api.ErrKind},
	}
	for _, x := range wrong {
		refused(t, x.x, x.e)
		refused(t, api.Tree{Kind: api.KBoth, F: name("b"), Kids: []api.Tree{plain, x.x, {}}}, x.e)
		refused(t, api.Tree{Kind: api.KBoth, F: name("b"), Kids: []api.Tree{{Kind: api.KOne, F: name("b"), Kids: []api.Tree{plain, x.x}}, {Kind: 9}}}, x.e)
		// What is wrong about a tree is told before what is wrong about its Kids, and what is wrong about these before that the text is too long.
		x.x.Kids = []api.Tree{{Kind: 7}, {Kind: api.KPlain, F: name("")}}
		refused(t, x.x, x.e)
		x.x.Kids = nil
		refused(t, api.Tree{Kind: api.KBoth, F: name("b"), Kids: append(slices.Repeat([]api.Tree{plain}, 10000), x.x)}, x.e)
	}
}

func TestLength(t *testing.T) {
	// The Kids have lines of 12 bytes, the tree itself one of 9.
	tree := func(many, last int) api.Tree {
		x := api.Tree{Kind: api.KBoth, F: name("b"), Kids: slices.Repeat([]api.Tree{{Kind: api.KPlain, F: name("b")}}, many)}
		x.Kids = append(x.Kids, api.Tree{Kind: api.KTold, F: name(strings.Repeat("b", last))})
		return x
	}
	many := (api.MaxText - 9 - 20) / 12
	last := api.MaxText - 9 - 12*many - 10
	if s, e := treetext.Show(vars, tree(many, last)); len(s) != api.MaxText || e != api.OK {
		t.Error(len(s), e)
	}
	refused(t, tree(many, last+1), api.ErrLong)
	refused(t, tree(9*many, 1), api.ErrLong)
	refused(t, api.Tree{Kind: api.KPath, F: name("b"), Path: slices.Repeat([][]int{{1, 1}}, 7000)}, api.ErrLong)
}

// The text of a deep tree would be far longer than the tree.
func TestDepth(t *testing.T) {
	x := api.Tree{Kind: api.KPlain, F: name("b")}
	for range 200 {
		x = api.Tree{Kind: api.KOne, F: name("b"), Kids: []api.Tree{x}}
	}
	s, e := treetext.Show(vars, x)
	if lines := strings.Split(s, "\n"); len(lines) != 202 || e != api.OK || lines[200] != strings.Repeat("  ", 200)+"plain [b]" {
		t.Error(len(lines), e)
	}
	for range 60000 {
		x = api.Tree{Kind: api.KOne, F: name("b"), Kids: []api.Tree{x}}
	}
	var before, after runtime.MemStats
	runtime.ReadMemStats(&before)
	refused(t, x, api.ErrLong)
	runtime.ReadMemStats(&after)
	if used := after.TotalAlloc - before.TotalAlloc; used > 1<<28 {
		t.Error(used)
	}
}

// random returns a tree of that depth or less.
func random(r *rand.Rand, depth int) api.Tree {
	f, _, _ := ftext.Parse([]string{"[n = 1]", "EF [b]", "!E[[b] U [b]]"}[r.Intn(3)])
	x := api.Tree{Kind: 1 + r.Intn(5), F: f, At: r.Intn(5) - 1, Loop: r.Intn(5) - 1, State: []int{0, 0}}
	for range r.Intn(4) {
		x.Path = append(x.Path, []int{r.Intn(4), r.Intn(2)})
	}
	for range r.Intn(4) {
		if depth > 1 {
			x.Kids = append(x.Kids, random(r, depth-1))
		}
	}
	return x
}

func TestRandomTrees(t *testing.T) {
	r := rand.New(rand.NewSource(53))
	var lines func(x api.Tree) int
	lines = func(x api.Tree) int {
		many := 1
		if x.Kind == api.KPath {
			many += len(x.Path)
		}
		for _, kid := range x.Kids {
			many += lines(kid)
		}
		return many
	}
	for range 3000 {
		x := random(r, 5)
		s, e := treetext.Show(vars, x)
		if e != api.OK || strings.Count(s, "\n") != lines(x) {
			t.Fatal(s, e)
		}
		bare := x
		bare.Kids = nil
		want, e := treetext.Show(vars, bare)
		for _, kid := range x.Kids {
			text, _ := treetext.Show(vars, kid)
			for line := range strings.Lines(text) {
				want += "  " + line
			}
		}
		if s != want || e != api.OK {
			t.Fatal(s, want)
		}
	}
}
