package typing_test

import (
	"math"
	"strconv"
	"strings"
	"testing"

	"voussoir/api"
	"voussoir/sample"
	"voussoir/typing"
)

// checks checks what Check returns; a zero place and OK for a valid module.
func checks(t *testing.T, about string, m api.Module, kind, i int, want api.Errno) {
	t.Helper()
	if p, e := typing.Check(m); p != (api.Place{Kind: kind, I: i}) || e != want {
		t.Errorf("%s: %v, %d; want %d, %d, %d", about, p, e, kind, i, want)
	}
}

func op(k int, kids ...api.Term) api.Term { return api.Term{Op: k, Kids: kids} }
func num(n int) api.Term                  { return api.Term{Op: api.TNum, N: n} }
func name(s string) api.Term              { return api.Term{Op: api.TName, Name: s} }
func form(t api.Term) api.Form            { return api.Form{Op: api.FTerm, E: t} }

var yes = api.Term{Op: api.TBool, N: 1}

func TestTheExample(t *testing.T) {
	text := "var n : 0..2; next n := if n < 2 then n + 1 else 0;"
	m := sample.Model(t, text)
	checks(t, text, m, 0, 0, api.OK)
	if k, ok := typing.States(m); typing.Bits(m) != 2 || k != 3 || !ok {
		t.Error(typing.Bits(m), k, ok)
	}
	checks(t, "init n", sample.Model(t, text+"init n;"), api.InInit, 0, api.ErrType)
	checks(t, "a cycle", sample.Model(t, text+"def a := b; def b := a;"), api.InDefs, 0, api.ErrCycle)
}

func TestValidModules(t *testing.T) {
	for _, s := range []string{
		"", "init true;", "invar 1 < 2;", "spec s : AG [true];", "def d := 5; spec s : [d = 5];",
		"var b : bool; next b := !b; trans next(b) -> b; fair b; invar b | !b; init b; spec b : EF [b]; spec c : E[[b] U ![b]];",
		"def e := d + 1; def d := c * 2; var c : -1..3; init e < 9; next c := d mod 3; trans next(c) != e; spec e : AG [e = d];",
		"def e := d; def d := c; def c := b; def b := a; def a := true; fair e & a;",
		"var a : -255..-255; var c : 192..255; var d : 0..0;",
		"var n : 0..5; next n := 99;", "var n : 0..5; trans next(n) = n + 100;",
		"var a : bool; var n : 0..3; next n := if a then 1 else n; next a := n = 2;",
		"def a := b & b; def b := true; init a -> a -> b;",
		"var x : 0..5; def a := 3; init x mod a = 0;", // with its definition inlined the divisor is a number
	} {
		checks(t, s, sample.Model(t, s), 0, 0, api.OK)
	}
}

func TestFirstError(t *testing.T) {
	for _, x := range []struct {
		s       string
		kind, i int
		e       api.Errno
	}{
		{"var a : bool; var a : 0..1;", api.InVars, 1, api.ErrTwice},
		{"var a : bool; var b : 1..0;", api.InVars, 1, api.ErrRange},
		{"def a := true; var b : 0..64;", api.InVars, 0, api.ErrRange},
		{"var a : bool; def b := 1; def a := 1;", api.InDefs, 1, api.ErrTwice},
		{"def a := 1; def b := 1; def b := c; def c := c;", api.InDefs, 2, api.ErrTwice},
		{"def a := a;", api.InDefs, 0, api.ErrCycle},
		{"def a := b; def b := c; def c := b;", api.InDefs, 1, api.ErrCycle},
		{"def a := true & x; def b := c; def c := b & b;", api.InDefs, 1, api.ErrCycle},
		{"def d := d; def a := b; def b := a;", api.InDefs, 0, api.ErrCycle},
		{"def e := d; def a := b; def b := c; def c := a; def d := d;", api.InDefs, 1, api.ErrCycle},
		{"def a := x + true; def b := 1 + true; var x : 0..2;", api.InDefs, 0, api.ErrType},
		{"def a := x; def b := 1 + true;", api.InDefs, 0, api.ErrName},
		{"def a := 1; def b := a; def c := a & b;", api.InDefs, 2, api.ErrType},
		{"def a := b & true; def b := 2;", api.InDefs, 0, api.ErrType},
		{"var x : bool; def a := next(x);", api.InDefs, 0, api.ErrPlace},
		{"var x : bool; def a := true; trans next(a);", api.InTrans, 0, api.ErrName},
		{"def a := b mod 0; def b := c;", api.InDefs, 0, api.ErrName},
		{"var x : 0..5; def a := 0; def b := x mod a;", api.InDefs, 1, api.ErrRange},
		{"init true; init 1;", api.InInit, 1, api.ErrType},
		{"def d := 1; init d;", api.InInit, 0, api.ErrType},
		{"var x : bool; init next(x);", api.InInit, 0, api.ErrPlace},
		{"init x; invar 1;", api.InInit, 0, api.ErrName},
		{"var x : bool; invar true; invar x & next(x);", api.InInvar, 1, api.ErrPlace},
		{"invar 1; next x := 1;", api.InInvar, 0, api.ErrType},
		{"next x := 1;", api.InNext, 0, api.ErrName},
		{"def x := 1; next x := 1;", api.InNext, 0, api.ErrName},
		{"var x : bool; next x := x; next x := y;", api.InNext, 1, api.ErrTwice},
		{"var x : bool; next x := x; next y := y; next x := x;", api.InNext, 1, api.ErrName},
		{"var x : bool; next x := 1;", api.InNext, 0, api.ErrType},
		{"var x : bool; var n : 0..2; next x := n; trans 1;", api.InNext, 0, api.ErrType},
		{"var x : bool; var n : 0..2; next n := x;", api.InNext, 0, api.ErrType},
		{"var x : bool; next x := next(x);", api.InNext, 0, api.ErrPlace},
		{"var x : bool; next x := y;", api.InNext, 0, api.ErrName},
		{"def d := 1; var x : bool; next x := d;", api.InNext, 0, api.ErrType},
		{"var n : 0..2; trans next(n) = 1; trans next(n);", api.InTrans, 1, api.ErrType},
		{"trans next(y); fair 1;", api.InTrans, 0, api.ErrName},
		{"var x : bool; trans x; fair next(x);", api.InFair, 0, api.ErrPlace},
		{"fair true; fair 3;", api.InFair, 1, api.ErrType},
		{"fair y; spec a : [1];", api.InFair, 0, api.ErrName},
		{"spec a : [true]; spec a : [y];", api.InSpecs, 1, api.ErrTwice},
		{"spec a : [y]; spec a : [true];", api.InSpecs, 0, api.ErrName},
		{"spec a : [true] & EF ([true] | [1]);", api.InSpecs, 0, api.ErrType},
		{"def d := 1; spec a : AG [d];", api.InSpecs, 0, api.ErrType},
		{"def d := 1; spec a : [1] | [y];", api.InSpecs, 0, api.ErrType},
		{"def d := 1; spec a : [y] | [1];", api.InSpecs, 0, api.ErrName},
		{"spec a : E[[true] U [1 + true]];", api.InSpecs, 0, api.ErrType},
		{"spec a : E[[z] U [1 + true]];", api.InSpecs, 0, api.ErrName},
	} {
		checks(t, x.s, sample.Model(t, x.s), x.kind, x.i, x.e)
	}
}

// sum returns a term of the given size, an odd number, and not of a great depth.
func sum(size int, leaf api.Term) api.Term {
	if size == 1 {
		return leaf
	}
	half := (size - 1) / 2
	if half%2 == 0 {
		half--
	}
	return op(api.TAnd, sum(half, leaf), sum(size-1-half, leaf))
}

func TestErrorsOfInline(t *testing.T) {
	big := sum(2001, name("x"))
	vars := []api.Var{{Name: "x", Bool: true}}
	two := op(api.TAnd, name("d"), name("d"))
	m := api.Module{Vars: vars, Defs: []api.Def{{Name: "d", E: big}}}
	checks(t, "a great definition", m, 0, 0, api.OK)
	checks(t, "twice", api.Module{Vars: vars, Defs: append(m.Defs, api.Def{Name: "e", E: two})}, 0, 0, api.OK)
	more := append(m.Defs, api.Def{Name: "e", E: two}, api.Def{Name: "f", E: op(api.TAnd, name("d"), name("e"))})
	checks(t, "thrice", api.Module{Vars: vars, Defs: more}, api.InDefs, 2, api.ErrLong)
	three := op(api.TAnd, name("d"), name("d"), name("d"))
	for _, x := range []struct {
		m    api.Module
		kind int
	}{
		{api.Module{Init: []api.Term{three}}, api.InInit}, {api.Module{Invar: []api.Term{three}}, api.InInvar}, {api.Module{Next: []api.Def{{Name: "x", E: three}}}, api.InNext},
		{api.Module{Trans: []api.Term{three}}, api.InTrans}, {api.Module{Fair: []api.Term{three}}, api.InFair}, {api.Module{Specs: []api.Spec{{Name: "s", F: form(three)}}}, api.InSpecs},
	} {
		x.m.Vars, x.m.Defs = vars, m.Defs
		checks(t, "too great", x.m, x.kind, 0, api.ErrLong)
	}
	deep := func(t api.Term) api.Term {
		for range 40 {
			t = op(api.TNot, t)
		}
		return t
	}
	m = api.Module{Vars: vars, Defs: []api.Def{{Name: "d", E: deep(name("x"))}}}
	checks(t, "a deep definition", m, 0, 0, api.OK)
	m.Fair = []api.Term{name("d"), deep(name("d"))}
	checks(t, "too deep", m, api.InFair, 1, api.ErrDeep)
	m.Fair = nil
	m.Defs = append(m.Defs, api.Def{Name: "e", E: deep(name("d"))})
	checks(t, "too deep", m, api.InDefs, 1, api.ErrDeep)
	// The term of a definition is looked at where it is used, too.
	m.Defs = []api.Def{{Name: "d", E: name("e")}, {Name: "e", E: num(256)}}
	checks(t, "an invalid term of another", m, api.InDefs, 0, api.ErrRange)
	m.Defs = []api.Def{{Name: "d", E: yes}, {Name: "e", E: num(256)}}
	checks(t, "an invalid term", m, api.InDefs, 1, api.ErrRange)
}

func TestInvalidTerms(t *testing.T) {
	for _, x := range []struct {
		t api.Term
		e api.Errno
	}{{api.Term{}, api.ErrKind}, {num(256), api.ErrRange}, {name(""), api.ErrName}, {op(api.TAnd), api.ErrForm}, {sum(4097, yes), api.ErrLong}} {
		checks(t, "def", api.Module{Defs: []api.Def{{Name: "a", E: yes}, {Name: "b", E: x.t}}}, api.InDefs, 1, x.e)
		checks(t, "init", api.Module{Init: []api.Term{yes, x.t}, Invar: []api.Term{{}}}, api.InInit, 1, x.e)
		checks(t, "invar", api.Module{Invar: []api.Term{yes, x.t}}, api.InInvar, 1, x.e)
		checks(t, "next", api.Module{Vars: []api.Var{{Name: "a", Bool: true}}, Next: []api.Def{{Name: "a", E: x.t}}}, api.InNext, 0, x.e)
		checks(t, "trans", api.Module{Trans: []api.Term{x.t, {}}}, api.InTrans, 0, x.e)
		checks(t, "fair", api.Module{Fair: []api.Term{yes, yes, x.t}}, api.InFair, 2, x.e)
		checks(t, "spec", api.Module{Specs: []api.Spec{{Name: "a", F: form(x.t)}}}, api.InSpecs, 0, x.e)
	}
	checks(t, "no formula", api.Module{Specs: []api.Spec{{Name: "a"}}}, api.InSpecs, 0, api.ErrKind)
	checks(t, "next in a formula", api.Module{Vars: []api.Var{{Name: "a", Bool: true}}, Specs: []api.Spec{{Name: "a", F: form(api.Term{Op: api.TNext, Name: "a"})}}}, api.InSpecs, 0, api.ErrPlace)
	checks(t, "half a formula", api.Module{Specs: []api.Spec{{Name: "a", F: api.Form{Op: api.FAnd, Kids: []api.Form{form(name("y"))}}}}}, api.InSpecs, 0, api.ErrForm)
	// The whole formula is looked at before the first of its terms.
	checks(t, "a wrong part", api.Module{Specs: []api.Spec{{Name: "a", F: api.Form{Op: api.FAnd, Kids: []api.Form{form(name("y")), {}}}}}}, api.InSpecs, 0, api.ErrKind)
}

// A term whose Kids share memory can be far greater than anything that could be looked through.
func TestSharedMemory(t *testing.T) {
	x := yes
	for range 80 {
		x = op(api.TAnd, x, x)
	}
	checks(t, "init", api.Module{Init: []api.Term{yes, x}}, api.InInit, 1, api.ErrDeep)
	checks(t, "spec", api.Module{Specs: []api.Spec{{Name: "a", F: form(x.Kids[0])}}}, api.InSpecs, 0, api.ErrDeep)
	for range 20 {
		x = x.Kids[0]
	}
	checks(t, "trans", api.Module{Trans: []api.Term{x}}, api.InTrans, 0, api.ErrLong)
}

func TestNames(t *testing.T) {
	for _, bad := range []string{"", "1", "next", "A", "true", "a-b", "_", "a ", strings.Repeat("a", 25)} {
		checks(t, "var "+bad, api.Module{Vars: []api.Var{{Name: "a", Bool: true}, {Name: bad, Bool: true, Lo: 7}}}, api.InVars, 1, api.ErrName)
		checks(t, "def "+bad, api.Module{Vars: []api.Var{{Name: "a", Bool: true}}, Defs: []api.Def{{Name: "b"}, {Name: bad}, {Name: "a"}}}, api.InDefs, 1, api.ErrName)
		checks(t, "next "+bad, api.Module{Vars: []api.Var{{Name: "a", Bool: true}}, Next: []api.Def{{Name: bad}}}, api.InNext, 0, api.ErrName)
		checks(t, "spec "+bad, api.Module{Specs: []api.Spec{{Name: "a", F: form(yes)}, {Name: bad}}}, api.InSpecs, 1, api.ErrName)
	}
	// Specifications have names of their own.
	checks(t, "a spec like a variable", sample.Model(t, "var a : bool; def b := a; spec a : [b]; spec b : [a];"), 0, 0, api.OK)
}

func TestHowManyDeclarations(t *testing.T) {
	full := func(n int) api.Module {
		m := api.Module{}
		for i := range n {
			s := strconv.Itoa(i)
			m.Vars = append(m.Vars, api.Var{Name: "v" + s})
			m.Defs = append(m.Defs, api.Def{Name: "d" + s, E: yes})
			m.Next = append(m.Next, api.Def{Name: "v" + s, E: num(0)})
			m.Specs = append(m.Specs, api.Spec{Name: "s" + s, F: form(yes)})
			for _, l := range []*[]api.Term{&m.Init, &m.Invar, &m.Trans, &m.Fair} {
				*l = append(*l, yes)
			}
		}
		return m
	}
	checks(t, "64 of each", full(64), 0, 0, api.OK)
	// What is wrong otherwise does not matter then, and of the kinds the first one counts.
	m := full(70)
	m.Vars[0].Name = "?"
	for kind := api.InVars; kind <= api.InSpecs; kind++ {
		checks(t, "70 of them", m, kind, 64, api.ErrMany)
		switch kind {
		case api.InVars:
			m.Vars = m.Vars[:64]
		case api.InDefs:
			m.Defs = m.Defs[:64]
		case api.InInit:
			m.Init = m.Init[:64]
		case api.InInvar:
			m.Invar = m.Invar[:64]
		case api.InNext:
			m.Next = m.Next[:64]
		case api.InTrans:
			m.Trans = m.Trans[:64]
		case api.InFair:
			m.Fair = m.Fair[:65]
			checks(t, "65 of them", m, kind, 64, api.ErrMany)
			m.Fair = m.Fair[:64]
		case api.InSpecs:
			m.Specs = m.Specs[:64]
		}
	}
	checks(t, "a wrong name", m, api.InVars, 0, api.ErrName)
}

func TestBitsOfAModule(t *testing.T) {
	var m api.Module
	for i := range 30 {
		m.Vars = append(m.Vars, api.Var{Name: "v" + strconv.Itoa(i), Bool: true})
	}
	for i := range 30 {
		m.Vars = append(m.Vars, api.Var{Name: "w" + strconv.Itoa(i), Lo: i, Hi: i})
	}
	checks(t, "30 bits", m, 0, 0, api.OK)
	m.Defs = []api.Def{{}}
	m.Vars[40].Hi++
	checks(t, "31 bits", m, api.InVars, 0, api.ErrMany)
	m.Vars[41].Hi--
	checks(t, "a wrong range", m, api.InVars, 41, api.ErrRange)
	m.Vars[41].Hi++
	m.Vars[0], m.Defs = api.Var{Name: "x"}, nil
	checks(t, "30 bits", m, 0, 0, api.OK)
}

func TestVars(t *testing.T) {
	good := api.Var{Name: "a", Lo: -255, Hi: -192}
	for _, x := range []struct {
		v api.Var
		e api.Errno
	}{
		{api.Var{Name: "b", Bool: true}, api.OK}, {api.Var{Name: "b"}, api.OK}, {api.Var{Name: "b", Lo: 192, Hi: 255}, api.OK}, {api.Var{Name: "b", Lo: -1, Hi: 62}, api.OK},
		{api.Var{}, api.ErrName}, {api.Var{Name: "var", Bool: true, Lo: 1}, api.ErrName}, {api.Var{Name: "9", Lo: 1}, api.ErrName},
		{api.Var{Name: "a"}, api.ErrTwice}, {api.Var{Name: "a", Bool: true, Lo: 1}, api.ErrTwice}, {api.Var{Name: "a", Lo: 1}, api.ErrTwice},
		{api.Var{Name: "b", Bool: true, Lo: 1}, api.ErrForm}, {api.Var{Name: "b", Bool: true, Hi: 1}, api.ErrForm}, {api.Var{Name: "b", Bool: true, Lo: 300, Hi: -1}, api.ErrForm},
		{api.Var{Name: "b", Lo: 1}, api.ErrRange}, {api.Var{Name: "b", Lo: -256, Hi: -250}, api.ErrRange}, {api.Var{Name: "b", Lo: 250, Hi: 256}, api.ErrRange},
		{api.Var{Name: "b", Hi: 64}, api.ErrRange}, {api.Var{Name: "b", Lo: -1, Hi: 63}, api.ErrRange}, {api.Var{Name: "b", Lo: math.MinInt, Hi: math.MaxInt}, api.ErrRange},
		{api.Var{Name: "b", Lo: math.MaxInt, Hi: math.MinInt}, api.ErrRange}, {api.Var{Name: "b", Lo: 256, Hi: 256}, api.ErrRange}, {api.Var{Name: "b", Lo: -256, Hi: -256}, api.ErrRange},
	} {
		i := 1
		if x.e == api.OK {
			i = 0
		}
		if at, e := typing.Vars([]api.Var{good, x.v}); at != i || e != x.e {
			t.Errorf("%v: %d, %d; want %d", x.v, at, e, x.e)
		}
		if at, e := typing.Vars([]api.Var{good, x.v, {}}); e == api.OK || at != max(i, 1)+(1-i) {
			t.Errorf("%v: %d, %d", x.v, at, e)
		}
		if p, e := typing.Check(api.Module{Vars: []api.Var{good, x.v}}); e != x.e || p.I != i || (p.Kind == api.InVars) != (i == 1) {
			t.Errorf("%v: %v, %d; want %d", x.v, p, e, x.e)
		}
	}
	if i, e := typing.Vars(nil); i != 0 || e != api.OK {
		t.Error(i, e)
	}
	many := make([]api.Var, 0, 1000)
	for i := range 1000 {
		many = append(many, api.Var{Name: "v" + strconv.Itoa(i)})
	}
	if i, e := typing.Vars(append(many, many[17])); i != 1000 || e != api.ErrTwice {
		t.Error(i, e)
	}
}

func TestSpan(t *testing.T) {
	const most = 1<<30 + 1
	for _, x := range []struct {
		v    api.Var
		want int
	}{
		{api.Var{}, 1}, {api.Var{Bool: true}, 2}, {api.Var{Bool: true, Lo: 5, Hi: 1}, 2}, {api.Var{Bool: true, Hi: 99}, 2}, {api.Var{Hi: 1}, 2}, {api.Var{Lo: 1}, 0}, {api.Var{Lo: -3, Hi: 3}, 7},
		{api.Var{Hi: 1<<30 - 2}, 1<<30 - 1}, {api.Var{Hi: 1<<30 - 1}, 1 << 30}, {api.Var{Hi: 1 << 30}, most}, {api.Var{Hi: 1<<30 + 1}, most}, {api.Var{Hi: math.MaxInt}, most},
		{api.Var{Lo: math.MinInt}, most}, {api.Var{Lo: math.MinInt, Hi: math.MaxInt}, most}, {api.Var{Lo: math.MinInt, Hi: math.MinInt}, 1}, {api.Var{Lo: math.MaxInt, Hi: math.MaxInt}, 1},
		{api.Var{Lo: math.MaxInt, Hi: math.MinInt}, 0}, {api.Var{Lo: math.MinInt, Hi: math.MinInt + 4}, 5}, {api.Var{Lo: -1, Hi: math.MaxInt}, most}, {api.Var{Lo: 0, Hi: math.MinInt}, 0},
	} {
		if got := typing.Span(x.v); got != x.want {
			t.Errorf("%v: %d; want %d", x.v, got, x.want)
		}
	}
}

func TestBitsAndStates(t *testing.T) {
	of := func(spans ...int) (m api.Module) {
		for _, n := range spans {
			m.Vars = append(m.Vars, api.Var{Lo: -7, Hi: n - 8})
		}
		return m
	}
	for _, x := range []struct {
		m            api.Module
		bits, states int
		ok           bool
	}{
		{of(), 0, 1, true}, {of(1, 1), 0, 1, true}, {of(2), 1, 2, true}, {of(3), 2, 3, true}, {of(4), 2, 4, true}, {of(5, 64, 65), 3 + 6 + 7, 5 * 64 * 65, true},
		{of(0), 0, 0, true}, {of(3, 0, 2), 3, 0, true}, {of(1<<30, 1<<30, 0), 60, 0, true}, {of(1<<30+1, 0), 31, 0, true}, {of(0, 1<<30+1), 31, 0, true},
		{of(1 << 30), 30, 1 << 30, true}, {of(1<<15, 1<<15), 30, 1 << 30, true}, {of(1<<15, 1<<15+1), 31, 0, false}, {of(1<<30, 2), 31, 0, false}, {of(1<<30 + 1), 31, 0, false},
		{of(1<<30, 1<<30, 1<<30), 90, 0, false}, {of(1<<29, 2, 1), 30, 1 << 30, true}, {of(1<<29, 3), 31, 0, false}, {of(3, 1<<62), 33, 0, false},
	} {
		if k, ok := typing.States(x.m); k != x.states || ok != x.ok || typing.Bits(x.m) != x.bits {
			t.Errorf("%v: %d, %v, %d; want %d, %v, %d", x.m.Vars, k, ok, typing.Bits(x.m), x.states, x.ok, x.bits)
		}
	}
	b := api.Module{Vars: []api.Var{{Bool: true}, {Bool: true, Lo: 9, Hi: 1}, {Lo: 9, Hi: 11}}}
	if k, ok := typing.States(b); k != 12 || !ok || typing.Bits(b) != 4 {
		t.Error(k, ok, typing.Bits(b))
	}
}

func TestIs(t *testing.T) {
	m := api.Module{Vars: []api.Var{{Name: "n", Lo: -2, Hi: 3}, {Name: "b", Bool: true}, {Name: "e", Lo: 1}, {Name: "f", Bool: true, Lo: 5, Hi: 9}}}
	two := api.Module{Vars: m.Vars[:2]}
	for _, x := range []struct {
		m    api.Module
		s    []int
		want bool
	}{
		{two, []int{-2, 0}, true}, {two, []int{3, 1}, true}, {two, []int{-3, 0}, false}, {two, []int{4, 0}, false}, {two, []int{0, 2}, false}, {two, []int{0, -1}, false},
		{two, []int{0}, false}, {two, nil, false}, {two, []int{0, 0, 0}, false}, {two, []int{math.MinInt, 0}, false}, {two, []int{0, math.MaxInt}, false},
		{m, []int{0, 0, 0, 0}, false}, {m, []int{0, 0, 1, 0}, false}, {api.Module{Vars: m.Vars[3:]}, []int{1}, true}, {api.Module{Vars: m.Vars[3:]}, []int{5}, false},
		{api.Module{}, nil, true}, {api.Module{}, []int{0}, false},
	} {
		if got := typing.Is(x.m, x.s); got != x.want {
			t.Errorf("%v, %v: %v", x.m.Vars, x.s, got)
		}
	}
}
