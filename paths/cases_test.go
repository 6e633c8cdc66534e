package paths_test

import (
	"slices"
	"testing"

	"voussoir/api"
	"voussoir/forms"
	"voussoir/paths"
	"voussoir/sample"
)

// leaf returns a tree without Kids for a formula in a state.
func leaf(kind int, f api.Form, s ...int) api.Tree {
	return api.Tree{Kind: kind, State: s, F: f}
}

// along returns a tree with a path.
func along(f api.Form, path []int, loop, at int, kids ...api.Tree) api.Tree {
	t := api.Tree{Kind: api.KPath, F: f, Loop: loop, At: at, Kids: kids}
	for _, n := range path {
		t.Path = append(t.Path, []int{n})
	}
	t.State = t.Path[0]
	return t
}

// kind returns the kind of the trees for a formula without path quantifiers that are existential.
func kind(f api.Form) int {
	if f.Op == api.FTerm {
		return api.KPlain
	}
	return api.KTold
}

// each returns trees for f in the states.
func each(f api.Form, states ...int) (l []api.Tree) {
	for _, n := range states {
		l = append(l, leaf(kind(f), f, n))
	}
	return l
}

// free is a model in which each number of x is followed by each number; a fair path comes to 1 again and again.
const free = "var x : 0 .. 3; fair x = 1;"

func TestWhatAtMeans(t *testing.T) {
	m := sample.Model(t, free)
	p, q := sample.Formula(t, "[x < 3]"), sample.Formula(t, "[x = 2]")
	pushed := func(s string) api.Form { return forms.Push(sample.Formula(t, s), false) }
	not := func(f api.Form) api.Form { return forms.Push(f, true) }
	ex, ef, eg, eu := pushed("EX [x = 2]"), pushed("EF [x = 2]"), pushed("EG [x < 3]"), pushed("E [[x < 3] U [x = 2]]")
	au := pushed("!A [[x = 2] U [x < 3]]") // refuted by a 3, or where x is 3 for ever
	late := pushed("!A [[x < 3] U [x = 2]]")
	for i, x := range []struct {
		tree api.Tree
		want api.Errno
	}{
		{along(ex, []int{0, 2, 1}, 0, 1, each(q, 2)...), api.OK},
		{along(ex, []int{2, 2, 1}, 0, 1, each(q, 2)...), api.OK},
		{along(ex, []int{2, 2, 1}, 0, 0, each(q, 2)...), api.ErrTree},
		{along(ex, []int{0, 1, 2}, 0, 2, each(q, 2)...), api.ErrTree},
		{along(ex, []int{0, 1, 2}, 0, 1, each(q, 2)...), api.ErrTree},
		{along(pushed("EX [x < 3]"), []int{1}, 0, 1, each(p, 1)...), api.ErrTree},
		{along(pushed("EX [x < 3]"), []int{1}, 0, 0, each(p, 1)...), api.ErrTree},
		{along(pushed("EX [x < 3]"), []int{1, 1}, 0, 1, each(p, 1)...), api.OK},
		{along(pushed("EX [x < 3]"), []int{1, 1}, 1, 1, each(p, 1)...), api.OK},
		{along(ef, []int{0, 2, 1}, 0, 1, each(q, 2)...), api.OK},
		{along(ef, []int{2, 1, 2, 3}, 1, 2, each(q, 2)...), api.OK}, // not the first one, which isn't looked at
		{along(ef, []int{2, 1, 2, 3}, 1, 3, each(q, 3)...), api.ErrTree},
		{along(ef, []int{2, 1, 2, 3}, 1, 1, each(q, 2)...), api.ErrTree},
		{along(ef, []int{2, 3}, 1, 0, each(q, 2)...), api.ErrPath},
		{along(ef, []int{2, 3}, 0, 0, each(q, 2)...), api.ErrPath},
		{along(eg, []int{0, 1, 2}, 1, 0, each(p, 0, 1, 2)...), api.OK},
		{along(eg, []int{0, 1, 2}, 1, 0, each(p, 0, 1)...), api.ErrTree},
		{along(eg, []int{0, 1, 2}, 1, 0, each(p, 0, 2, 1)...), api.ErrTree},
		{along(eg, []int{0, 1, 2}, 1, 0, each(p, 0, 1, 2, 0)...), api.ErrTree},
		{along(eg, []int{0, 1, 2}, 1, 1, each(p, 0, 1, 2)...), api.ErrTree},
		{along(eg, []int{0, 1, 3}, 1, 0, each(p, 0, 1, 3)...), api.ErrTree},
		{along(eu, []int{0, 1, 2}, 1, 2, slices.Concat(each(p, 0, 1), each(q, 2))...), api.OK},
		{along(eu, []int{2, 1}, 1, 0, each(q, 2)...), api.OK},
		{along(eu, []int{2, 1, 2}, 1, 2, slices.Concat(each(p, 2, 1), each(q, 2))...), api.OK},
		{along(eu, []int{0, 1, 2}, 1, 2, slices.Concat(each(p, 0), each(q, 2))...), api.ErrTree},
		{along(eu, []int{0, 1, 2}, 1, 2, slices.Concat(each(p, 0, 1, 2), each(q, 2))...), api.ErrTree},
		{along(eu, []int{0, 1, 2}, 1, 2, slices.Concat(each(p, 0, 1), each(p, 2))...), api.ErrTree},
		{along(eu, []int{0, 1, 3}, 1, 2, slices.Concat(each(p, 0, 1), each(q, 3))...), api.ErrTree},
		{along(eu, []int{0, 3, 2, 1}, 1, 2, slices.Concat(each(p, 0, 3), each(q, 2))...), api.ErrTree},
		{along(eu, []int{0, 1}, 1, 2, slices.Concat(each(p, 0, 1), each(q, 0))...), api.ErrTree},
		{along(au, []int{3, 1}, 1, 0, slices.Concat(each(not(p), 3), each(not(q), 3))...), api.OK},
		{along(au, []int{3, 3, 1}, 1, 1, slices.Concat(each(not(p), 3, 3), each(not(q), 3))...), api.OK},
		{along(au, []int{3, 3, 1}, 1, 1, slices.Concat(each(not(p), 3), each(not(q), 3))...), api.ErrTree},
		{along(au, []int{3, 1}, 1, 0, slices.Concat(each(not(q), 3), each(not(p), 3))...), api.ErrTree},
		{along(au, []int{3, 1}, 1, 0, each(not(p), 3)...), api.ErrTree},
		{along(au, []int{3, 1}, 1, 1, slices.Concat(each(not(p), 3, 1), each(not(q), 1))...), api.ErrTree},
		{along(au, []int{3, 1}, 1, 2, slices.Concat(each(not(p), 3, 1), each(not(q), 1))...), api.ErrTree},
		{along(au, []int{3, 1}, 1, -1, each(not(p), 3, 1)...), api.ErrTree}, // 1 is less than 3
		{along(late, []int{0, 3, 1}, 1, -1, each(not(q), 0, 3, 1)...), api.OK},
		{along(late, []int{0, 3, 1}, 1, -1, each(not(q), 0, 3)...), api.ErrTree},
		{along(late, []int{0, 3, 1}, 1, -1, slices.Concat(each(not(q), 0, 3, 1), each(not(p), 1))...), api.ErrTree},
		{along(late, []int{0, 3, 1}, 1, -2, each(not(q), 0, 3, 1)...), api.ErrTree},
		{along(late, []int{0, 3, 1}, 1, 1, slices.Concat(each(not(q), 0, 3), each(not(p), 3))...), api.OK},
		{along(late, []int{0, 3, 1}, 1, 0, slices.Concat(each(not(q), 0), each(not(p), 0))...), api.ErrTree},
		{along(late, []int{0, 3, 2, 1}, 1, -1, each(not(q), 0, 3, 2, 1)...), api.ErrTree},
	} {
		if c, e := paths.Check(m, x.tree.F, x.tree.State, x.tree); e != x.want || len(c) != 0 {
			t.Errorf("%d: %v, %d; want %d", i, c, e, x.want)
		}
	}
}

// What can't be seen state by state is taken on trust.
func TestTrust(t *testing.T) {
	m := sample.Model(t, free)
	or := sample.Formula(t, "[x < 2] | [x < 3]")
	second := api.Tree{Kind: api.KOne, State: []int{0}, F: or, At: 1, Kids: each(or.Kids[1], 0)}
	if c, e := paths.Check(m, or, []int{0}, second); e != api.OK || len(c) != 0 {
		t.Error(c, e)
	}
	for _, s := range []string{"AX [false]", "AF [false]", "AG [false]", "A [[false] U [false]]", "!E [[true] U [true]]", "AG [y]"} {
		f := sample.Formula(t, s)
		c, e := paths.Check(m, f, []int{2}, leaf(api.KTold, f, 2))
		if e != api.OK || len(c) != 1 || !slices.Equal(c[0].State, []int{2}) || !forms.Same(c[0].F, f) {
			t.Error(s, c, e)
		}
	}
}

// Claims come in the order of the trees, and those that are repeated once.
func TestClaims(t *testing.T) {
	m := sample.Model(t, free)
	f := sample.Formula(t, "EG (AF [x = 1] & AX [x = x])")
	and := f.Kids[0]
	told := func(n int) api.Tree {
		return api.Tree{Kind: api.KBoth, State: []int{n}, F: and, Kids: each2(and.Kids, n)}
	}
	tree := along(f, []int{0, 1, 0}, 1, 0, told(0), told(1), told(0))
	c, e := paths.Check(m, f, []int{0}, tree)
	want := []api.Claim{{State: []int{0}, F: and.Kids[0]}, {State: []int{0}, F: and.Kids[1]}, {State: []int{1}, F: and.Kids[0]}, {State: []int{1}, F: and.Kids[1]}}
	same := func(a, b api.Claim) bool { return slices.Equal(a.State, b.State) && forms.Same(a.F, b.F) }
	if e != api.OK || !slices.EqualFunc(c, want, same) {
		t.Fatal(c, e)
	}
	c[0].State[0], c[0].F.Kids[0], c[1].F.Kids[0] = 9, api.Form{}, api.Form{}
	if !slices.EqualFunc(c[2:], want[2:], same) || tree.State[0] != 0 || tree.Kids[0].State[0] != 0 || !forms.Same(f, tree.F) || tree.Kids[0].Kids[0].State[0] != 0 || !forms.Same(and.Kids[0], sample.Formula(t, "AF [x = 1]")) {
		t.Error("a claim is memory of another one, or of an argument")
	}
	tree.Kids[2].Kids[1].At = 1
	if c, e := paths.Check(m, f, []int{0}, tree); len(c) != 0 || e != api.ErrTree {
		t.Error(c, e)
	}
}

// each2 returns trees for the formulas in a state.
func each2(l []api.Form, n int) (trees []api.Tree) {
	for _, f := range l {
		trees = append(trees, leaf(kind(f), f, n))
	}
	return trees
}

// A tree is checked before its Kids, and the Kids are checked in order.
func TestTheFirstError(t *testing.T) {
	m := sample.Model(t, free)
	f := sample.Formula(t, "EF [x = 1] & EG [x < 2]")
	left, right := along(f.Kids[0], []int{0, 1}, 1, 1, each(sample.Formula(t, "[x = 1]"), 1)...), along(f.Kids[1], []int{0, 1}, 1, 0, each(sample.Formula(t, "[x < 2]"), 0, 1)...)
	path, at := func(t *api.Tree) { t.Loop = 2 }, func(t *api.Tree) { t.At = 7 }
	for i, x := range []struct {
		spoil []func(t *api.Tree) // the whole, the left and the right one
		want  api.Errno
	}{
		{[]func(t *api.Tree){nil, nil, nil}, api.OK},
		{[]func(t *api.Tree){nil, path, at}, api.ErrPath},
		{[]func(t *api.Tree){nil, at, path}, api.ErrTree},
		{[]func(t *api.Tree){at, path, path}, api.ErrTree},
		{[]func(t *api.Tree){nil, func(t *api.Tree) { t.Kids[0].Loop = 1 }, path}, api.ErrTree},
		{[]func(t *api.Tree){nil, nil, path}, api.ErrPath},
	} {
		tree := copyOf(api.Tree{Kind: api.KBoth, State: []int{0}, F: f, Kids: []api.Tree{left, right}})
		for k, spoil := range x.spoil {
			if spoil != nil {
				spoil([]*api.Tree{&tree, &tree.Kids[0], &tree.Kids[1]}[k])
			}
		}
		if _, e := paths.Check(m, f, []int{0}, tree); e != x.want {
			t.Errorf("%d: %d; want %d", i, e, x.want)
		}
	}
}

// The term of a plain tree has to be true. A negation that can't be looked at itself is looked at without its TNot.
func TestPlain(t *testing.T) {
	m := sample.Model(t, "var x : 0 .. 2; var b : bool; def d := b & x = 1;")
	of := func(x api.Term) api.Form { return api.Form{Op: api.FTerm, E: x} }
	no := func(x api.Term) api.Term { return api.Term{Op: api.TNot, Kids: []api.Term{x}} }
	deepest := deepTerm(api.MaxDeep - 1) // the negation of b
	for i, x := range []struct {
		f    api.Form
		want api.Errno
	}{
		{sample.Formula(t, "[b]"), api.OK}, {sample.Formula(t, "[d]"), api.OK}, {sample.Formula(t, "[!b | x = 1]"), api.OK}, {sample.Formula(t, "[true]"), api.OK},
		{sample.Formula(t, "[!b]"), api.ErrTree}, {sample.Formula(t, "[!d]"), api.ErrTree}, {sample.Formula(t, "[x = 2]"), api.ErrTree}, {sample.Formula(t, "[!!b]"), api.OK},
		{sample.Formula(t, "![b]"), api.ErrTree}, {sample.Formula(t, "![x = 2]"), api.OK}, {sample.Formula(t, "!![d]"), api.OK},
		{sample.Formula(t, "[x]"), api.ErrTree}, {sample.Formula(t, "[!x]"), api.ErrTree}, {sample.Formula(t, "[y]"), api.ErrTree}, {sample.Formula(t, "[!y]"), api.ErrTree}, {sample.Formula(t, "[!(b & y)]"), api.ErrTree}, {sample.Formula(t, "![x]"), api.ErrTree}, {sample.Formula(t, "![y = 1]"), api.ErrTree},
		{of(deepest), api.ErrTree}, {api.Form{Op: api.FNot, Kids: []api.Form{of(deepest)}}, api.OK}, {of(deepest.Kids[0]), api.OK}, {api.Form{Op: api.FNot, Kids: []api.Form{of(deepest.Kids[0])}}, api.ErrTree},
		{api.Form{Op: api.FNot, Kids: []api.Form{of(no(deepest.Kids[0]))}}, api.OK},
	} {
		pushed := forms.Push(x.f, false)
		if c, e := paths.Check(m, x.f, []int{1, 1}, leaf(api.KPlain, pushed, 1, 1)); e != x.want || len(c) != 0 {
			t.Errorf("%d: %d; want %d", i, e, x.want)
		}
	}
	// Expanded, the negation is too deep, but what it negates is not. That helps negations only.
	m.Defs = []api.Def{{Name: "d", E: deepest}}
	if _, e := paths.Check(m, sample.Formula(t, "![d]"), []int{1, 1}, leaf(api.KPlain, forms.Push(sample.Formula(t, "[d]"), true), 1, 1)); e != api.OK {
		t.Error(e)
	}
	if _, e := paths.Check(m, sample.Formula(t, "![d]"), []int{1, 0}, leaf(api.KPlain, forms.Push(sample.Formula(t, "[d]"), true), 1, 0)); e != api.ErrTree {
		t.Error(e)
	}
	for _, op := range []int{api.TAnd, api.TOr} {
		one := of(api.Term{Op: op, Kids: []api.Term{{Op: api.TName, Name: "d"}}})
		if _, e := paths.Check(m, one, []int{1, 1}, leaf(api.KPlain, one, 1, 1)); e != api.ErrTree {
			t.Error(op, e)
		}
	}
}

// What Push returns may be deeper than formulas can be, and is checked all the same.
func TestBeyondTheLimits(t *testing.T) {
	m := sample.Model(t, "var x : bool; fair x;")
	is, isNot := sample.Formula(t, "[x]"), sample.Formula(t, "[!x]")
	au := api.Form{Op: api.FAU, Kids: []api.Form{is, is}}
	f := deep(api.FEX, api.MaxDeep-3, api.Form{Op: api.FImp, Kids: []api.Form{au, is}})
	pushed := forms.Push(f, false)
	if forms.Check(f) != api.OK || forms.Check(pushed) != api.ErrDeep {
		t.Fatal(forms.Check(f), forms.Check(pushed))
	}
	var tree func(f api.Form, n int) api.Tree
	tree = func(f api.Form, n int) api.Tree {
		switch f.Op {
		case api.FEX: // to 0 at the end, so that the negation of the FAU holds
			return along(f, []int{n, 0, 1}, 0, 1, tree(f.Kids[0], 0))
		case api.FOr:
			return api.Tree{Kind: api.KOne, State: []int{n}, F: f, Kids: []api.Tree{tree(f.Kids[0], n)}}
		}
		return along(f, []int{n, 1}, 1, 0, each(isNot, n, n)...)
	}
	whole := tree(pushed, 1)
	if c, e := paths.Check(m, f, []int{1}, whole); e != api.OK || len(c) != 0 {
		t.Error(c, e)
	}
	all := trees(&whole)
	all[len(all)-1].State = []int{1}
	if c, e := paths.Check(m, f, []int{1}, whole); e != api.ErrTree || len(c) != 0 {
		t.Error(c, e)
	}
}

func TestWrongArguments(t *testing.T) {
	m, broken := sample.Model(t, counter), sample.Model(t, "var x : 0 .. 2; init x;")
	is := sample.Formula(t, "[x = 2]")
	right := leaf(api.KPlain, is, 2)
	for i, x := range []struct {
		m    api.Module
		f    api.Form
		s    []int
		want api.Errno
	}{
		{broken, api.Form{}, nil, api.ErrArg},
		{broken, is, []int{2}, api.ErrArg},
		{m, api.Form{}, nil, api.ErrKind},
		{m, api.Form{Op: api.FEX}, []int{2}, api.ErrForm},
		{m, deep(api.FNot, api.MaxDeep, is), []int{9}, api.ErrDeep},
		{m, api.Form{Op: api.FTerm, E: api.Term{Op: api.TNext, Name: "x"}}, []int{2}, api.ErrPlace},
		{m, is, []int{3}, api.ErrState},
		{m, is, nil, api.ErrState},
		{m, is, []int{2, 0}, api.ErrState},
		{m, is, []int{0}, api.ErrTree},
		{m, sample.Formula(t, "EX [x = 2]"), []int{2}, api.ErrTree},
		{m, is, []int{2}, api.OK},
		{m, sample.Formula(t, "!![x = 2]"), []int{2}, api.OK},
	} {
		if c, e := paths.Check(x.m, x.f, x.s, right); len(c) != 0 || e != x.want {
			t.Errorf("%d: %v, %d; want %d", i, c, e, x.want)
		}
	}
	if _, e := paths.Check(m, is, []int{2}, api.Tree{}); e != api.ErrTree {
		t.Error(e)
	}
}
