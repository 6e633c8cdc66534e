package cone_test

import (
	"math"
	"slices"
	"testing"

	"voussoir/api"
	"voussoir/cone"
	"voussoir/modtext"
	"voussoir/sample"
)

// show returns the text of a module.
func show(t *testing.T, m api.Module) string {
	t.Helper()
	s, e := modtext.Show(m)
	if e != api.OK {
		t.Fatalf("%v: %d", m, e)
	}
	return s
}

// is checks that a call has returned the module for which s stands.
func is(t *testing.T, about, s string) func(n api.Module, e api.Errno) {
	return func(n api.Module, e api.Errno) {
		t.Helper()
		if e != api.OK {
			t.Fatalf("%s: %d", about, e)
		}
		if got, want := show(t, n), show(t, sample.Model(t, s)); got != want {
			t.Errorf("%s: %q; want %q", about, got, want)
		}
	}
}

// refused checks that a call has failed with that error.
func refused(t *testing.T, about string, want api.Errno) func(n api.Module, e api.Errno) {
	return func(n api.Module, e api.Errno) {
		t.Helper()
		if e != want || show(t, n) != "" {
			t.Errorf("%s: %v, %d; want %d", about, n, e, want)
		}
	}
}

func TestTheExample(t *testing.T) {
	m := sample.Model(t, "var a : bool; var b : bool; var c : bool; next a := b; fair c;")
	if l := cone.Names(m, "a"); !slices.Equal(l, []string{"a", "b"}) {
		t.Error(l)
	}
	is(t, "a", "var a : bool; var b : bool; next a := b;")(cone.Cut(m, "a"))
	is(t, "c", "var c : bool; fair c;")(cone.Cut(m, "c"))
}

// Each kind of declaration relates variables, and is cut.
func TestRelations(t *testing.T) {
	vars := "var d : bool; var c : bool; var b : bool; var a : bool; "
	for _, x := range []struct {
		s    string
		l    []string
		want []string
		part string
	}{
		{"init a & c;", []string{"c"}, []string{"a", "c"}, "var c : bool; var a : bool; init a & c;"},
		{"invar a & c;", []string{"a"}, []string{"a", "c"}, "var c : bool; var a : bool; invar a & c;"},
		{"trans a & c;", []string{"a"}, []string{"a", "c"}, "var c : bool; var a : bool; trans a & c;"},
		{"trans a & next(c);", []string{"c"}, []string{"a", "c"}, "var c : bool; var a : bool; trans a & next(c);"},
		{"trans next(d) = next(b);", []string{"b"}, []string{"b", "d"}, "var d : bool; var b : bool; trans next(d) = next(b);"},
		{"fair a & c;", []string{"c"}, []string{"a", "c"}, "var c : bool; var a : bool; fair a & c;"},
		{"next a := c & d;", []string{"d"}, []string{"a", "c", "d"}, "var d : bool; var c : bool; var a : bool; next a := c & d;"},
		{"next a := b; next b := c;", []string{"c"}, []string{"a", "b", "c"}, "var c : bool; var b : bool; var a : bool; next a := b; next b := c;"},
		{"init a | b; fair b | c; trans c | d;", []string{"d"}, []string{"a", "b", "c", "d"}, "var d : bool; var c : bool; var b : bool; var a : bool; init a | b; trans c | d; fair b | c;"},
		{"init a; init b; next c := !d; next d := d;", []string{"a"}, []string{"a"}, "var a : bool; init a;"},
		{"init a; init b; next c := !d; next d := true;", []string{"d", "b"}, []string{"b", "c", "d"}, "var d : bool; var c : bool; var b : bool; init b; next c := !d; next d := true;"},
		{"next a := true; next b := false;", []string{"a"}, []string{"a"}, "var a : bool; next a := true;"},
		{"init true; invar 1 < 2; trans false; fair true; next a := true;", nil, nil, "init true; invar 1 < 2; trans false; fair true;"},
		{"init a; init true; init b;", []string{"b"}, []string{"b"}, "var b : bool; init true; init b;"},
		{"spec s : AG [a & b];", []string{"a"}, []string{"a"}, "var a : bool;"},
		{"def k := a & b; init k -> c; fair k;", []string{"b"}, []string{"a", "b", "c"}, "var c : bool; var b : bool; var a : bool; init a & b -> c; fair a & b;"},
		{"def k := l | a; def l := b; next c := k;", []string{"a"}, []string{"a", "b", "c"}, "var c : bool; var b : bool; var a : bool; next c := b | a;"},
		{"def k := a & b; init a; init c;", []string{"a"}, []string{"a"}, "var a : bool; init a;"},
		{"def k := true; init k; next d := k;", []string{"k", "x", ""}, nil, "init true;"},
		{"def k := true; next d := k;", []string{"d", "k", "d"}, []string{"d"}, "var d : bool; next d := true;"},
		{"init if a then true else b;", []string{"a"}, []string{"a", "b"}, "var b : bool; var a : bool; init if a then true else b;"},
		{"", []string{"b", "a", "b"}, []string{"a", "b"}, "var b : bool; var a : bool;"},
	} {
		m := sample.Model(t, vars+x.s)
		if l := cone.Names(m, x.l...); !slices.Equal(l, x.want) {
			t.Errorf("%s %v: %v; want %v", x.s, x.l, l, x.want)
		}
		is(t, x.s, x.part)(cone.Cut(m, x.l...))
	}
}

func TestSpec(t *testing.T) {
	s := "var d : bool; var c : 0..3; var b : bool; var a : bool; def k := a & l; def l := true; init c < 2; init b | k; fair l;" +
		"spec one : AG ([k] -> EF [d]); spec two : [c = 1]; spec three : E[[l] U [1 < 2]];"
	m := sample.Model(t, s)
	is(t, "one", "var d : bool; var b : bool; var a : bool; init b | a & true; fair true; spec one : AG ([a & true] -> EF [d]);")(cone.Spec(m, 0))
	is(t, "two", "var c : 0..3; init c < 2; fair true; spec two : [c = 1];")(cone.Spec(m, 1))
	is(t, "three", "fair true; spec three : E[[true] U [1 < 2]];")(cone.Spec(m, 2))
	for _, i := range []int{-1, 3, 4, math.MinInt, math.MaxInt} {
		refused(t, "no such spec", api.ErrRange)(cone.Spec(m, i))
		refused(t, "no spec", api.ErrRange)(cone.Spec(api.Module{}, i))
	}
}

func TestInvalidModules(t *testing.T) {
	valid := sample.Model(t, "var a : bool; init a; spec s : [a];")
	for _, s := range []string{"var a : bool; init b; spec s : [a];", "var a : bool; var a : bool; spec s : [a];", "def k := l; def l := k; var a : bool; spec s : [a];", "var a : bool; spec s : [a]; spec t : [x];", "var a : bool; init 1; spec s : [a];", "var a : bool; def k := 1 + true; spec s : [a];"} {
		m := sample.Model(t, s)
		if l := cone.Names(m, "a"); len(l) != 0 {
			t.Errorf("%s: %v", s, l)
		}
		refused(t, s, api.ErrArg)(cone.Cut(m, "a"))
		refused(t, s, api.ErrArg)(cone.Spec(m, 0))
		refused(t, s, api.ErrArg)(cone.Spec(m, 9))
		if cone.Right(m, m) || cone.Right(valid, m) || cone.Right(m, valid) {
			t.Errorf("%s: right", s)
		}
	}
}

func TestRight(t *testing.T) {
	m := sample.Model(t, "var a : bool; var b : 0..3; var c : bool; def k := b < 2; init a -> k; init true; invar c; next b := b; trans next(c) | c; trans true; fair k; fair c; spec s : [a];")
	for _, s := range []string{
		"init true; trans true;",
		"init true; trans true; spec x : AG [true];",
		"var c : bool; init true; invar c; trans next(c) | c; trans true; fair c;",
		"var a : bool; var b : 0..3; init a -> b < 2; init true; next b := b; trans true; fair b < 2;",
		"var a : bool; var b : 0..3; init a -> b < 2; init true; next b := b; trans true; fair b < 2; spec t : [a]; spec u : EF [b = 1];",
		"var a : bool; var b : 0..3; var c : bool; init a -> b < 2; init true; invar c; next b := b; trans next(c) | c; trans true; fair b < 2; fair c;",
	} {
		if !cone.Right(m, sample.Model(t, s)) {
			t.Errorf("not right: %s", s)
		}
	}
	for _, s := range []string{
		"",
		"init true;",
		"trans true; init false;",
		"init true; trans true; def k := true;",
		"init true; init true; trans true;",
		"var c : bool; init true; trans next(c) | c; trans true; fair c;",
		"var c : bool; init true; invar c; trans true; fair c;",
		"var c : bool; init true; invar c; trans next(c) | c; trans true;",
		"var c : bool; init true; invar c; trans true; trans next(c) | c; fair c;",
		"var c : bool; init true; invar c & c; trans next(c) | c; trans true; fair c;",
		"var c : bool; init true; invar c; trans next(c) | c; trans true; fair c; next c := c;",
		"var d : bool; init true; trans true;",
		"var a : bool; init true; trans true;",
		"var b : 0..3; var a : bool; init a -> b < 2; init true; next b := b; trans true; fair b < 2;",
		"var a : bool; var b : 0..2; init a -> b < 2; init true; next b := b; trans true; fair b < 2;",
		"var a : bool; var b : 0..3; init a -> b < 2; init true; trans true; fair b < 2;",
		"var a : bool; var b : 0..3; init a -> b < 2; init true; next a := a; trans true; fair b < 2;",
		"var a : bool; var b : 0..3; init a -> b < 2; init true; next b := 2; trans true; fair b < 2;",
		"var a : bool; var b : 0..3; def k := b < 2; init a -> k; init true; next b := b; trans true; fair k;",
		"var a : bool; var b : 0..3; init a -> b < 2; init true; next b := b; trans true; fair b < 2; spec s : [c];",
	} {
		if cone.Right(m, sample.Model(t, s)) {
			t.Errorf("right: %s", s)
		}
	}
	if cone.Right(m, m) {
		t.Error("right: with a definition")
	}
	vars := "var a : bool; var b : bool; "
	if cone.Right(sample.Model(t, vars+"next a := b;"), sample.Model(t, vars+"next b := b;")) {
		t.Error("right: with the next of another variable")
	}
}

func TestNoModule(t *testing.T) {
	none := api.Module{}
	if l := cone.Names(none, "a"); len(l) != 0 {
		t.Error(l)
	}
	is(t, "no module", "")(cone.Cut(none, "a"))
	if !cone.Right(none, none) {
		t.Error("not right")
	}
}

// What is returned shares no memory with the module.
func TestMemory(t *testing.T) {
	s := "var a : bool; var b : bool; def k := a & b; init k -> !a; invar a | !a; next a := !b; trans !a; fair !k; spec s : AG [!k];"
	m := sample.Model(t, s)
	before := show(t, m)
	n, e := cone.Spec(m, 0)
	if e != api.OK {
		t.Fatal(e)
	}
	other := api.Term{Op: api.TBool}
	n.Vars[0].Name, n.Next[0].Name, n.Specs[0].Name = "x", "x", "x"
	for _, l := range [][]api.Term{n.Init, n.Invar, n.Trans, n.Fair, {n.Next[0].E, n.Specs[0].F.Kids[0].E}} {
		l[0].Kids[0] = other
		l[0] = other
	}
	n.Specs[0].F.Kids[0] = api.Form{}
	if after := show(t, m); after != before {
		t.Errorf("%q; want %q", after, before)
	}
}

// A module with as many declarations as there may be is looked at in no time.
func TestGreatModule(t *testing.T) {
	m := api.Module{}
	chain := api.Term{Op: api.TBool, N: 1}
	for i := range api.MaxParts {
		name := string([]byte{'w', byte('a' + i/26), byte('a' + i%26)})
		v := api.Var{Name: name, Lo: i, Hi: i}
		if i < api.MaxBits {
			v = api.Var{Name: name, Bool: true}
			chain = api.Term{Op: api.TAnd, Kids: []api.Term{chain, {Op: api.TName, Name: name}}}
		}
		m.Vars = append(m.Vars, v)
		m.Defs = append(m.Defs, api.Def{Name: "d" + name, E: chain})
	}
	for _, d := range m.Defs {
		m.Init = append(m.Init, api.Term{Op: api.TName, Name: d.Name})
	}
	n, e := cone.Cut(m, "waa")
	if e != api.OK || len(n.Vars) != api.MaxBits || len(n.Init) != api.MaxParts || len(cone.Names(m, "wba")) != api.MaxBits || len(cone.Names(m, "wcc")) != 1 {
		t.Error(len(n.Vars), len(n.Init), e)
	}
	if !cone.Right(m, n) {
		t.Error("not right")
	}
}
