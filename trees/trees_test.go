package trees_test

import (
	"fmt"
	"math"
	"math/rand"
	"slices"
	"testing"

	"voussoir/api"
	"voussoir/atlas"
	"voussoir/forms"
	"voussoir/rel"
	"voussoir/sample"
	"voussoir/trees"
	"voussoir/trial"
	"voussoir/typing"
)

func TestTheExamples(t *testing.T) {
	w := ofText(t, "var x : 0 .. 2; next x := if x = 2 then 0 else x + 1;")
	cycle := [][]int{{0}, {1}, {2}}
	two := pushed(t, "[x = 2]")
	plain := api.Tree{Kind: api.KPlain, State: []int{2}, F: two}
	gives(t, w, "EF [x = 2]", []int{0}, trees.Explain, api.Tree{Kind: api.KPath, State: []int{0}, F: pushed(t, "EF [x = 2]"), Path: cycle, At: 2, Kids: []api.Tree{plain}})
	small, _ := trees.Explain(w.Rel, sample.Formula(t, "EF [x = 2]"), []int{0})
	if n := trees.Size(small); n != 2 {
		t.Error(n)
	}
	plain.F = pushed(t, "[!(x < 2)]")
	gives(t, w, "AG [x < 2]", []int{0}, trees.Counter, api.Tree{Kind: api.KPath, State: []int{0}, F: pushed(t, "EF [!(x < 2)]"), Path: cycle, At: 2, Kids: []api.Tree{plain}})
	gives(t, w, "AG [x < 3]", []int{1}, trees.Explain, api.Tree{Kind: api.KTold, State: []int{1}, F: pushed(t, "AG [x < 3]")})

	w = ofText(t, "var x : bool; init !x; next x := !x;")
	plain = api.Tree{Kind: api.KPlain, State: []int{1}, F: pushed(t, "[x]")}
	gives(t, w, "EX [x]", []int{0}, trees.Explain, api.Tree{Kind: api.KPath, State: []int{0}, F: pushed(t, "EX [x]"), Path: [][]int{{0}, {1}}, At: 1, Kids: []api.Tree{plain}})
	tree, e := trees.Counter(w.Rel, sample.Formula(t, "AG [x]"), []int{0})
	if tree.Kind != api.KPath || tree.At != 0 || !forms.Same(tree.F, pushed(t, "EF [!x]")) || e != api.OK {
		t.Error(tree, e)
	}
}

// Trees for every kind of formula, with all their fields.
func TestKinds(t *testing.T) {
	// From 0 to 1, from 1 to 2, and from 2 to itself, or on to 3, from which no path goes on.
	w := ofText(t, "var x : 0 .. 3; trans x < 2 & next(x) = x + 1 | x = 2 & 2 <= next(x);")
	at := func(kind int, f string, s int) api.Tree {
		return api.Tree{Kind: kind, State: []int{s}, F: pushed(t, f)}
	}
	along := func(f string, loop, at int, from int, kids ...api.Tree) api.Tree {
		tree := api.Tree{Kind: api.KPath, State: []int{from}, F: pushed(t, f), Loop: loop, At: at, Kids: kids}
		for s := from; s <= 2; s++ {
			tree.Path = append(tree.Path, []int{s})
		}
		return tree
	}
	plain := func(f string, states ...int) (l []api.Tree) {
		for _, s := range states {
			l = append(l, at(api.KPlain, f, s))
		}
		return l
	}
	both := at(api.KBoth, "[x = 1] & AG [x < 3]", 1)
	both.Kids = []api.Tree{at(api.KPlain, "[x = 1]", 1), at(api.KTold, "AG [x < 3]", 1)}
	first, second := at(api.KOne, "[x = 1] | [x < 2]", 1), at(api.KOne, "[x = 1] | [x < 2]", 0)
	first.Kids, second.At, second.Kids = plain("[x = 1]", 1), 1, plain("[x < 2]", 0)
	next := along("EX [x = 2]", 1, 1, 2, plain("[x = 2]", 2)...)
	next.Path = [][]int{{2}, {2}}
	for _, x := range []struct {
		s    string
		want api.Tree
	}{
		{"[x = 1]", at(api.KPlain, "[x = 1]", 1)},
		{"![x = 1]", at(api.KPlain, "[!(x = 1)]", 0)},
		{"!!([x = 1] -> EF [x = 3])", api.Tree{Kind: api.KOne, State: []int{0}, F: pushed(t, "![x = 1] | EF [x = 3]"), Kids: plain("[!(x = 1)]", 0)}},
		{"[x = 1] & AG [x < 3]", both},
		{"[x = 1] | [x < 2]", first},
		{"[x = 1] | [x < 2]", second},
		{"AX [x = 2]", at(api.KTold, "AX [x = 2]", 1)},
		{"AF [x = 2]", at(api.KTold, "AF [x = 2]", 1)},
		{"AX [false]", at(api.KTold, "AX [false]", 3)},
		{"A [[x < 2] U [x = 2]]", at(api.KTold, "A [[x < 2] U [x = 2]]", 0)},
		{"!E [[x < 2] U [x = 3]]", at(api.KTold, "!E [[x < 2] U [x = 3]]", 0)},
		{"EX [x = 1]", along("EX [x = 1]", 2, 1, 0, plain("[x = 1]", 1)...)},
		{"EX [x = 2]", next},
		{"EF [0 < x]", along("EF [0 < x]", 2, 1, 0, plain("[0 < x]", 1)...)},
		{"EF [x < 2]", along("EF [x < 2]", 2, 0, 0, plain("[x < 2]", 0)...)},
		{"EG [x < 3]", along("EG [x < 3]", 1, 0, 1, plain("[x < 3]", 1, 2)...)},
		{"E [[x < 2] U [x = 2]]", along("E [[x < 2] U [x = 2]]", 2, 2, 0, append(plain("[x < 2]", 0, 1), plain("[x = 2]", 2)...)...)},
		{"E [[x < 1] U [x = 1 | x = 2]]", along("E [[x < 1] U [x = 1 | x = 2]]", 1, 0, 1, plain("[x = 1 | x = 2]", 1)...)},
		{"!A [[x = 0] U [x = 2]]", along("!A [[x = 0] U [x = 2]]", 2, 1, 0, append(plain("[!(x = 2)]", 0, 1), plain("[!(x = 0)]", 1)...)...)},
		{"!A [[x < 3] U [x = 3]]", along("!A [[x < 3] U [x = 3]]", 1, -1, 1, plain("[!(x = 3)]", 1, 2)...)},
		{"!A [[x = 1] U ![x = 0]]", along("!A [[x = 1] U ![x = 0]]", 2, 0, 0, append(plain("[!!(x = 0)]", 0), plain("[!(x = 1)]", 0)...)...)},
	} {
		gives(t, w, x.s, x.want.State, trees.Explain, x.want)
		gives(t, w, "!("+x.s+")", x.want.State, trees.Counter, x.want)
	}
}

func TestRandomModels(t *testing.T) {
	r := rand.New(rand.NewSource(50))
	met := map[string]int{}
	for range 700 {
		w := of(atlas.Some(t, r, 60))
		owned := w.M.Handles()
		for range 4 {
			w.explained(sample.Form(r, w.Rel.Module().Vars, 2+r.Intn(3)))
		}
		if w.M.Handles() != owned {
			t.Fatal(w.M.Handles(), owned)
		}
		for kind, many := range w.met {
			met[kind] += many
		}
	}
	several(t, met, "1", "2", "3", "4", "never", "refuted later", "refuted at once", "near 6", "near 7", "near 8", "near 9")
}

// several checks that there were trees of all these kinds.
func several(t *testing.T, met map[string]int, kinds ...string) {
	t.Helper()
	for _, kind := range kinds {
		if met[kind] < 10 {
			t.Error(kind, met)
		}
	}
}

func TestModels(t *testing.T) {
	r := rand.New(rand.NewSource(51))
	for _, s := range []string{
		"",
		"fair false;",
		"trans false;",
		"invar false;",
		"var k : 7 .. 7;",
		"var x : bool; fair x; fair !x;",
		"var x : 0 .. 31; next x := x; fair x mod 3 = 1;",
		"var x : 0 .. 31; trans x <= next(x); fair x mod 5 = 2; fair x mod 3 = 1;",
		"var x : 0 .. 31; next x := (6 * x + 1) mod 32; fair x mod 2 = 1;",
		"var x : 0 .. 31; next x := (x + 1) mod 32; fair x = 9; fair x = 5;",
		"var x : 0 .. 31; trans next(x) = x + 2 | x mod 5 = 4 & next(x) = x - 3; fair x mod 7 < 3; fair 1 < x mod 4; fair 5 < x;",
		"var a : 0 .. 5; var b : 0 .. 5; trans a = next(a) & next(b) = b + 1 | b = next(b) & next(a) = (a + 1) mod 6; fair a = b;",
		"var a : 0 .. 4; var b : 0 .. 4; trans next(a) + next(b) = a + b | next(a) + next(b) = a + b + 3; invar a != 2 | b = 2; fair a < b; fair b < a;",
		"var x : 0 .. 6; var b : bool; next x := if b then x + 1 else x; invar x = 3 -> b; trans b -> !next(b) | next(x) < 4; fair !b; fair x != 4;",
	} {
		w := ofText(t, s)
		vars := w.Rel.Module().Vars
		for range 6 {
			w.explained(sample.Form(r, vars, 3))
		}
		for op := api.FNot; op <= api.FAU; op++ {
			w.explained(over(op, sample.Form(r, vars, 1), sample.Form(r, vars, 1)))
			w.explained(not(over(op, sample.Form(r, vars, 2), sample.Form(r, vars, 2))))
		}
	}
}

// The nearest state counts from which a fair path goes on, and for an FEU the nearest to which the way is free.
func TestLeast(t *testing.T) {
	// Round from 0 to 8; from 0 on to 9, where no path goes on, and from 2 on to 20, where all are unfair; 5 and 15 are two transitions apart, too.
	w := ofText(t, "var x : 0 .. 20; trans x < 8 & next(x) = x + 1 | x = 8 & next(x) = 0 | x = 0 & next(x) = 9 | (x = 2 | x = 20) & next(x) = 20 | x = 3 & next(x) = 15 | x = 15 & next(x) = 5; fair x = 8;")
	for s, want := range map[string]int{
		"EF [x = 0]": 0, "EF [x = 1]": 1, "EF [x = 9 | x = 4]": 4, "EF [x = 20 | 6 < x & x != 15]": 7, "EF [x = 5]": 5, "EF EF [x = 3]": 0, "EF EG [x != 20]": 0, "EF AG [x = x]": 0,
		"E [[x < 9] U [x = 9 | x = 5]]": 5, "E [[x != 4] U [x = 5]]": 5, "E [[x != 3] U [x = 0]]": 0, "E [[x < 20] U [x = 20 | x = 8]]": 8, "E [EF [x = 6] U [x = 6]]": 6, "E [[false] U [x < 3]]": 0,
	} {
		f := sample.Formula(t, s)
		tree, e := trees.Explain(w.Rel, f, []int{0})
		if tree.At != want || e != api.OK {
			t.Error(s, tree.At, e)
		}
		w.right(f, []int{0}, tree)
		w.explained(f)
		w.explained(sample.Formula(t, "EG "+s))
	}
	several(t, w.met, "near 7", "far 7", "near 9", "far 9")
}

// over returns the formula with that operator whose operands are the first ones of l.
func over(op int, l ...api.Form) api.Form {
	switch op {
	case api.FAnd, api.FOr, api.FImp, api.FEU, api.FAU:
		return api.Form{Op: op, Kids: l[:2]}
	}
	return api.Form{Op: op, Kids: l[:1]}
}

// Negations within the operands of an FAU are pushed once more when it is refuted.
func TestRefutedOperands(t *testing.T) {
	w := ofText(t, "var x : 0 .. 7; var b : bool; trans next(x) = (x + 1) mod 8 | next(x) = x & b; fair x mod 4 != 2; fair b;")
	for _, p := range []string{"![x < 3]", "!!![b]", "!AX [b]", "!A [[x < 3] U ![b]]", "E [![b] U [x = 5]]", "EG ![x = 5]", "AG EF [b]", "!([b] -> EX ![b])", "A [[b] U A [![b] U ![x = 5]]]"} {
		for _, q := range []string{"![x != 5]", "!!EX [b]", "!E [[b] U ![x != 5]]", "![x = 1] & !A [![b] U ![x = 6]]", "AG ![b]", "A [![b] U [false]]"} {
			w.explained(sample.Formula(t, "A ["+p+" U "+q+"]"))
			w.explained(sample.Formula(t, "EG ([x = 2] | !A ["+q+" U "+p+"])"))
		}
	}
	several(t, w.met, "never", "refuted later", "refuted at once")
}

// An event may take place at any moment of a call.
func TestEvents(t *testing.T) {
	w := ofText(t, "var x : 0 .. 3; var b : bool; next x := if b then (x + 1) mod 4 else x; next b := b | x = 1; trans x = 2 -> b; fair x = 0 | x = 2; fair b;")
	f := sample.Formula(t, "EX [b] & EF EG [b] & !A [[x < 3] U [x = 2 & !b]] & (AG [x = 0] | E [[b] U [x = 3]])")
	s := []int{1, 1}
	owned := w.M.Handles()
	for _, check := range []func(){
		func() {
			tree, e := trees.Explain(w.Rel, f, s)
			if e != api.OK {
				t.Fatal(e)
			}
			w.right(f, s, tree)
		},
		func() {
			if tree, e := trees.Counter(w.Rel, f, s); !zero(tree) || e != api.ErrTree {
				t.Fatal(tree, e)
			}
		},
	} {
		for kind := api.EvCollect; kind <= api.EvTurn; kind++ {
			for _, level := range []int{0, 3, 5} {
				after := 0
				for w.M.Waits() == 0 {
					after += 1 + after/20
					w.M.Plan(api.Event{After: after, Kind: kind, Level: level}, api.Event{After: 1, Kind: api.EvCollect})
					check()
					if w.M.Handles() != owned {
						t.Fatal(w.M.Handles(), owned)
					}
				}
				if after < 100 {
					t.Error(after)
				}
				for w.M.Waits() > 0 {
					w.M.Drop(w.Set(0b1))
				}
			}
		}
	}
}

// bad returns wrong formulas over the variables x, a number, and b, which is Boolean, with what is wrong about them. The definition d is none of the variables.
func bad(t *testing.T) (l []api.Form, faults []api.Errno) {
	add := func(f api.Form, e api.Errno) { l, faults = append(l, f), append(faults, e) }
	for _, x := range []struct {
		text  string
		fault api.Errno
	}{
		{"EX [x]", api.ErrType},
		{"EX [d]", api.ErrName},
		{"[y] & [x]", api.ErrName},
		{"[x] & [y]", api.ErrType},
		{"[b] | EG ([x] | [y])", api.ErrType},
		{"[b] -> [x mod 0 = 1]", api.ErrRange},
		{"!AG [if b then x else b]", api.ErrType},
	} {
		add(sample.Formula(t, x.text), x.fault)
	}
	word := func(op int, name string) api.Form { return api.Form{Op: api.FTerm, E: api.Term{Op: op, Name: name}} }
	deep := word(api.TName, "b")
	for range api.MaxDeep {
		deep = api.Form{Op: api.FEX, Kids: []api.Form{deep}}
	}
	add(api.Form{}, api.ErrKind)
	add(api.Form{Op: 14}, api.ErrKind)
	add(api.Form{Op: api.FEX}, api.ErrForm)
	add(api.Form{Op: api.FNot, Kids: []api.Form{{Op: api.FAU, Kids: []api.Form{word(api.TName, "b")}}}}, api.ErrForm)
	add(api.Form{Op: api.FAnd, Kids: []api.Form{word(api.TName, "y"), {Op: 99}}}, api.ErrKind)
	add(word(api.TNext, "b"), api.ErrPlace)
	add(word(api.TName, ""), api.ErrName)
	add(deep, api.ErrDeep)
	return l, faults
}

func TestWrongArguments(t *testing.T) {
	w := ofText(t, "var x : 0 .. 2; var b : bool; def d := b; invar x = 2 -> b; next x := if x = 2 then 0 else x + 1; fair b;")
	owned := w.M.Handles()
	fails := func(want api.Errno, r *rel.Rel, f api.Form, s []int) {
		t.Helper()
		for about, call := range map[string]func(*rel.Rel, api.Form, []int) (api.Tree, api.Errno){"Explain": trees.Explain, "Counter": trees.Counter} {
			if tree, e := call(r, f, s); !zero(tree) || e != want || w.M.Handles() != owned {
				t.Errorf("%s of %v in %v: %v, %d; want %d", about, f, s, tree, e, want)
			}
		}
	}
	good := sample.Formula(t, "EX [b]")
	wrong, faults := bad(t)
	noStates := [][]int{nil, {}, {0}, {2, 0}, {0, 0, 0}, {-1, 0}, {0, 2}, {3, 1}, {math.MinInt, 1}, {0, math.MaxInt}}
	for _, s := range append(noStates, []int{0, 1}) {
		for i, f := range wrong {
			fails(faults[i], w.Rel, f, s)
			fails(api.ErrNone, nil, f, s)
		}
		fails(api.ErrNone, nil, good, s)
	}
	for _, s := range noStates {
		fails(api.ErrState, w.Rel, good, s)
		fails(api.ErrState, w.Rel, sample.Formula(t, "[false]"), s)
		fails(api.ErrState, w.Rel, sample.Formula(t, "A [[b] U [x = 2]]"), s)
	}
	for _, s := range w.Graph.States {
		if tree, e := trees.Explain(w.Rel, not(good), s); !zero(tree) || e != api.ErrTree {
			t.Error(tree, e)
		}
		if tree, e := trees.Counter(w.Rel, good, s); !zero(tree) || e != api.ErrTree {
			t.Error(tree, e)
		}
	}
}

// After a call that finds no room everything is as before.
func TestLittleRoom(t *testing.T) {
	r := rand.New(rand.NewSource(53))
	failed, done := 0, 0
	for range 2500 {
		mod := sample.Module(r)
		vars := 2 * typing.Bits(mod)
		small, e := atlas.New(t, r, mod, vars, 5+r.Intn(6*vars+1))
		if e != api.OK {
			continue
		}
		w := of(small)
		p := r.Uint64() & w.Full()
		set, e := w.Put(p, w.Now())
		if e != api.OK {
			continue
		}
		owned := w.M.Handles()
		f := sample.Form(r, mod.Vars, 3)
		for _, s := range w.Graph.States {
			w.Disturb()
			tree, e := trees.Explain(w.Rel, f, s)
			want := f
			if e == api.ErrTree {
				want = not(f)
				tree, e = trees.Counter(w.Rel, f, s)
			}
			switch {
			case w.M.Handles() != owned || w.Read(set, w.Now()) != p:
				t.Fatal(w.M.Handles(), owned)
			case e == api.OK:
				w.right(want, s, tree)
				done++
			case e != api.ErrRoom || !zero(tree):
				t.Fatal(tree, e)
			default:
				failed++
			}
			if tree, e := trees.Explain(w.Rel, f, append(slices.Clone(s), 0)); !zero(tree) || e != api.ErrState {
				t.Fatal(tree, e)
			}
		}
	}
	if failed < 100 || done < 1000 {
		t.Error(failed, done)
	}
}

// Where the room is Enough for the handles, no call fails for it.
func TestEnoughRoom(t *testing.T) {
	r := rand.New(rand.NewSource(54))
	for done := 0; done < 300; {
		mod := sample.Module(r)
		vars := 2 * typing.Bits(mod)
		if vars > 6 {
			continue
		}
		done++
		handles := 2 + 2 + len(mod.Next) + len(mod.Trans) + 1 + len(mod.Fair)
		w, e := atlas.New(t, r, mod, vars, trial.Enough(vars, handles))
		if e != api.OK {
			t.Fatal(e)
		}
		of(w).explained(sample.Form(r, mod.Vars, 5))
	}
}

// What is answered is memory of its own.
func TestNewMemory(t *testing.T) {
	free, line := ofText(t, "var x : 0 .. 3; fair x = 1;"), ofText(t, "var x : 0 .. 3; next x := if x < 2 then x + 1 else 2;")
	for text, w := range map[string]world{"EG EX ([x = 2] | [x < 3])": free, "EG ([x = 2] -> !A [[x = x] U [x = 1 & x = 2]])": free, "EF ([x = 1] & EG [x < 2]) & AG AF [x = 1]": free, "EG EG [x < 3]": line, "EG EF E [[x < 3] U [x = 2]]": line} {
		f, s := sample.Formula(t, text), append(make([]int, 0, 9), 0)
		before := fmt.Sprint(f)
		tree, e := trees.Explain(w.Rel, f, s)
		if e != api.OK {
			t.Fatal(text, e)
		}
		pure(t, &tree)
		if fmt.Sprint(f) != before || s[0] != 0 || s[:2][1] != 0 {
			t.Error("an argument has changed")
		}
	}
}

// pure checks that no part of a tree changes when all others are spoilt, one after the other.
func pure(t *testing.T, tree *api.Tree) {
	t.Helper()
	numbers, names := parts(tree)
	for i, n := range numbers {
		*n = 1000 + i
	}
	for i, s := range names {
		*s = fmt.Sprint(i)
	}
	for i, n := range numbers {
		if *n != 1000+i {
			t.Fatal("two numbers are one")
		}
	}
	for i, s := range names {
		if *s != fmt.Sprint(i) {
			t.Fatal("two names are one")
		}
	}
	if len(numbers) < 50 || len(names) < 10 {
		t.Error(len(numbers), len(names))
	}
}

// parts returns where a tree keeps its numbers and its names.
func parts(tree *api.Tree) (numbers []*int, names []*string) {
	add := func(l []int) {
		for i := range l {
			numbers = append(numbers, &l[i])
		}
		if cap(l) > len(l) {
			numbers = append(numbers, &l[:len(l)+1][len(l)])
		}
	}
	var term func(x *api.Term)
	term = func(x *api.Term) {
		numbers, names = append(numbers, &x.Op, &x.N), append(names, &x.Name)
		for i := range x.Kids {
			term(&x.Kids[i])
		}
	}
	var form func(f *api.Form)
	form = func(f *api.Form) {
		numbers = append(numbers, &f.Op)
		term(&f.E)
		for i := range f.Kids {
			form(&f.Kids[i])
		}
	}
	var visit func(x *api.Tree)
	visit = func(x *api.Tree) {
		numbers = append(numbers, &x.Kind, &x.Loop, &x.At)
		add(x.State)
		form(&x.F)
		for _, s := range x.Path {
			add(s)
		}
		for i := range x.Kids {
			visit(&x.Kids[i])
		}
	}
	visit(tree)
	return numbers, names
}

func TestSize(t *testing.T) {
	leaf := api.Tree{}
	three := api.Tree{Kind: 9, Kids: []api.Tree{leaf, {Kind: api.KPlain}}}
	for _, x := range []struct {
		tree api.Tree
		want int
	}{
		{leaf, 1}, {api.Tree{Path: [][]int{{1}, {2}}}, 1}, {three, 3}, {api.Tree{Kids: []api.Tree{three, leaf, three}}, 8}, {api.Tree{Kids: slices.Repeat([]api.Tree{three}, 1000)}, 3001},
	} {
		if n := trees.Size(x.tree); n != x.want {
			t.Error(n, x.want)
		}
	}
}
