package modtext_test

import (
	"math"
	"reflect"
	"strconv"
	"strings"
	"testing"

	"voussoir/api"
	"voussoir/modtext"
)

func op(k int, kids ...api.Term) api.Term { return api.Term{Op: k, Kids: kids} }
func num(n int) api.Term                  { return api.Term{Op: api.TNum, N: n} }
func name(s string) api.Term              { return api.Term{Op: api.TName, Name: s} }
func next(s string) api.Term              { return api.Term{Op: api.TNext, Name: s} }
func form(t api.Term) api.Form            { return api.Form{Op: api.FTerm, E: t} }

var yes = api.Term{Op: api.TBool, N: 1}

// same reports whether a and b are equal, where nil and empty lists are.
func same(a, b api.Module) bool {
	return reflect.DeepEqual(tidy(reflect.ValueOf(a)), tidy(reflect.ValueOf(b)))
}

// tidy returns a copy of v in which no list is empty without being nil.
func tidy(v reflect.Value) any {
	c := reflect.New(v.Type()).Elem()
	c.Set(v)
	var walk func(v reflect.Value)
	walk = func(v reflect.Value) {
		switch v.Kind() {
		case reflect.Struct:
			for i := range v.NumField() {
				walk(v.Field(i))
			}
		case reflect.Slice:
			l := reflect.Zero(v.Type())
			for i := range v.Len() {
				l = reflect.Append(l, v.Index(i))
			}
			v.Set(l)
			for i := range v.Len() {
				walk(v.Index(i))
			}
		}
	}
	walk(c)
	return c.Interface()
}

// parsed checks that s stands for m.
func parsed(t *testing.T, s string, m api.Module) {
	t.Helper()
	if got, at, e := modtext.Parse(s); !same(got, m) || at != len(s) || e != api.OK {
		t.Errorf("Parse(%.99q): %d, %d, or the wrong module", s, at, e)
	}
}

// shown checks that s is what Show makes of m, and that s stands for m.
func shown(t *testing.T, m api.Module, s string) {
	t.Helper()
	if got, e := modtext.Show(m); got != s || e != api.OK {
		t.Errorf("Show: %.99q, %d; want %.99q", got, e, s)
	}
	parsed(t, s, m)
}

// refused checks that Parse refuses s.
func refused(t *testing.T, s string, at int, e api.Errno) {
	t.Helper()
	if got, place, fault := modtext.Parse(s); !same(got, api.Module{}) || place != at || fault != e {
		t.Errorf("Parse(%.99q): %d, %d; want %d, %d", s, place, fault, at, e)
	}
}

// unshown checks that Show refuses m.
func unshown(t *testing.T, m api.Module, e api.Errno) {
	t.Helper()
	if s, fault := modtext.Show(m); s != "" || fault != e {
		t.Errorf("Show: %.99q, %d; want %d", s, fault, e)
	}
}

func TestTheExample(t *testing.T) {
	m := api.Module{
		Vars:  []api.Var{{Name: "n", Lo: -1, Hi: 2}},
		Next:  []api.Def{{Name: "n", E: num(0)}},
		Specs: []api.Spec{{Name: "s", F: api.Form{Op: api.FEF, Kids: []api.Form{form(op(api.TEq, name("n"), num(1)))}}}},
	}
	parsed(t, "var n : -1 .. 2; next n := 0; spec s : EF [n = 1];", m)
	shown(t, m, "var n : -1 .. 2 ;\nnext n := 0 ;\nspec s : EF [n = 1] ;\n")
	refused(t, "init true", 9, api.ErrSyntax)
}

func TestAllKinds(t *testing.T) {
	m := api.Module{
		Vars:  []api.Var{{Name: "b", Bool: true}, {Name: "n", Lo: 0, Hi: 255}, {Name: "k", Lo: 7, Hi: -255}},
		Defs:  []api.Def{{Name: "d", E: op(api.TNot, name("b"))}, {Name: "d", E: num(-3)}},
		Init:  []api.Term{yes, name("b")},
		Invar: []api.Term{op(api.TLt, name("n"), num(9))},
		Next:  []api.Def{{Name: "n", E: op(api.TAdd, name("n"), num(1))}, {Name: "b", E: op(api.TIf, name("b"), yes, name("x"))}},
		Trans: []api.Term{op(api.TIff, next("b"), name("b")), next("k")},
		Fair:  []api.Term{name("b"), op(api.TOr, name("b"), name("d"))},
		Specs: []api.Spec{{Name: "p", F: form(yes)}, {Name: "p", F: api.Form{Op: api.FAnd, Kids: []api.Form{form(yes), form(name("b"))}}}},
	}
	text := "var b : bool ;\nvar n : 0 .. 255 ;\nvar k : 7 .. -255 ;\ndef d := !b ;\ndef d := -3 ;\ninit true ;\ninit b ;\ninvar n < 9 ;\n" +
		"next n := n + 1 ;\nnext b := if b then true else x ;\ntrans next(b) <-> b ;\ntrans next(k) ;\nfair b ;\nfair b | d ;\nspec p : [true] ;\nspec p : [true] & [b] ;\n"
	shown(t, m, text)
	// The declarations may be in any order; those of each kind keep theirs.
	parsed(t, "spec p:[true];fair b;trans next(b)<->b;next n:=n+1;invar n<9;init true;def d:=!b;var b:bool;"+
		"var n:0..255;var k:7..- 255;def d:=- 3;init b;next b:=if b then true else x;trans next ( k );fair b|d;spec p:([true]&[b]);", m)
	parsed(t, strings.ReplaceAll(text, " ", " -- ; a remark\n\t"), m)
	shown(t, api.Module{}, "")
	parsed(t, " \t-- nothing", api.Module{})
	parsed(t, "var n:-0..0;", api.Module{Vars: []api.Var{{Name: "n"}}})
	parsed(t, "var nextU:1..1;", api.Module{Vars: []api.Var{{Name: "nextU", Lo: 1, Hi: 1}}})
}

func TestSyntaxErrors(t *testing.T) {
	for _, x := range []struct {
		s  string
		at int
	}{
		{"n", 0}, {";", 0}, {"1", 0}, {":=", 0}, {"true", 0}, {"bool", 0}, {"init true;;", 10}, {"init true; n", 11}, {" Var n : bool;", 1},
		{"var", 3}, {"var ", 4}, {"var bool", 4}, {"var 1 : bool;", 4}, {"var n", 5}, {"var n bool;", 6}, {"var n := bool;", 6}, {"var n :", 7}, {"var n : ;", 8},
		{"var n : bool", 12}, {"var n : bool, m : bool;", 12}, {"var n : bool .. 1;", 13}, {"var n : boolean;", 8}, {"var n, m : bool;", 5},
		{"var n : 0", 9}, {"var n : 0;", 9}, {"var n : 0 ..", 12}, {"var n : 0 .. ;", 13}, {"var n : 0 .. bool;", 13}, {"var n : 0 : 1;", 10}, {"var n : 0 - 1;", 10},
		{"var n : -;", 9}, {"var n : -", 9}, {"var n : - - 1 .. 2;", 10}, {"var n : +1 .. 2;", 8}, {"var n : 0 .. -;", 14}, {"var n : 0 .. 1", 14}, {"var n : 0 .. 1 2;", 15}, {"var n : x .. 2;", 8}, {"var n : 0 .. x;", 13}, {"var n : 0 .. 1 + 1;", 15},
		{"def", 3}, {"def := 1;", 4}, {"def a", 5}, {"def a = 1;", 6}, {"def a : 1;", 6}, {"def a := ;", 9}, {"def a := 1", 10}, {"def a := 1 2;", 11}, {"def true := 1;", 4},
		{"next", 4}, {"next(a) := 1;", 4}, {"next a := ", 10}, {"next a := 1, b := 2;", 11},
		{"init", 4}, {"init ;", 5}, {"init a b;", 7}, {"init := a;", 5}, {"init a := b;", 7}, {"init (a;", 7}, {"init a) ;", 6}, {"init [a];", 5}, {"init EF [a];", 5},
		{"invar", 5}, {"invar a invar b;", 8}, {"trans", 5}, {"trans next a;", 11}, {"fair", 4}, {"fair a", 6}, {"fair a & ;", 9},
		{"spec", 4}, {"spec s [a];", 7}, {"spec s := [a];", 7}, {"spec s : a;", 9}, {"spec s : [a]", 12}, {"spec s : [a] EF;", 13}, {"spec s : EF;", 11}, {"spec s : [a;", 11}, {"spec : [a];", 5}, {"spec s :", 8}, {"spec s : E[[a] U];", 16},
		{"def EF := 1;", 4}, {"def a; init a;", 5}, {"init a; fair", 12}, {"init a; invar", 13},
	} {
		refused(t, x.s, x.at, api.ErrSyntax)
		if strings.Contains(x.s, "  ") {
			continue
		}
		refused(t, "init a;"+x.s, x.at+7, api.ErrSyntax)
	}
}

func TestOtherErrors(t *testing.T) {
	refused(t, "init a; ?", 8, api.ErrToken)
	refused(t, "n 256", 2, api.ErrRange)
	refused(t, "var n : 0 .. 256;", 13, api.ErrRange)
	refused(t, "init 01;", 5, api.ErrToken)
	refused(t, "var "+strings.Repeat("n", 25)+" : bool;", 4, api.ErrLong)
	refused(t, strings.Repeat(" ", api.MaxText+1), 0, api.ErrLong)
	refused(t, strings.Repeat("?", api.MaxText+1), 0, api.ErrLong)
	refused(t, strings.Repeat(" ", api.MaxText-1)+"n", api.MaxText-1, api.ErrSyntax)
	deep := strings.Repeat("(", 256)
	refused(t, "init "+deep+"(a)"+strings.Repeat(")", 256)+";", 5+256, api.ErrDeep)
	refused(t, "spec s : "+deep+"([a])"+strings.Repeat(")", 256)+";", 9+256, api.ErrDeep)
	parsed(t, "init "+deep+"a"+strings.Repeat(")", 256)+";", api.Module{Init: []api.Term{name("a")}})
	// A term that is parsed but not valid is refused at its first token.
	refused(t, "fair a; init  "+strings.Repeat("!", 64)+"a;", 14, api.ErrDeep)
	refused(t, "def a :=  a"+strings.Repeat("&a", 64)+";", 10, api.ErrForm)
	refused(t, "next b:= "+strings.Repeat("a+", 70)+"a;", 9, api.ErrDeep)
	refused(t, "spec s :  "+strings.Repeat("!", 64)+"[a];", 10, api.ErrDeep)
	refused(t, "spec s : [next(a)];", 9, api.ErrPlace)
	refused(t, "spec s : [a] & [ "+strings.Repeat("!", 64)+"a];", 17, api.ErrDeep)
	// What is wrong earlier is told first, and what is wrong in the tokens before that.
	refused(t, "init "+strings.Repeat("!", 64)+"a b;", 5, api.ErrDeep)
	refused(t, "init a b; n ?", 12, api.ErrToken)
}

// each returns a declaration of each kind, in their order.
func each() []string {
	return []string{"var v : bool ;\n", "def d := a ;\n", "init a ;\n", "invar a ;\n", "next n := a ;\n", "trans a ;\n", "fair a ;\n", "spec s : [a] ;\n"}
}

func TestHowManyDeclarations(t *testing.T) {
	all := ""
	for _, s := range each() {
		all += strings.Repeat(s, api.MaxParts)
	}
	m, at, e := modtext.Parse(all)
	if e != api.OK || at != len(all) || len(m.Vars)+len(m.Defs)+len(m.Init)+len(m.Invar)+len(m.Next)+len(m.Trans)+len(m.Fair)+len(m.Specs) != 8*api.MaxParts {
		t.Fatal(at, e)
	}
	if s, e := modtext.Show(m); s != all || e != api.OK {
		t.Error(len(s), e)
	}
	for _, s := range each() {
		word, _, _ := strings.Cut(s, " ")
		for _, rest := range []string{"", " (", " a := 1", ";", " " + s[len(word):]} {
			refused(t, all+word+rest, len(all), api.ErrMany)
			refused(t, all+" init", len(all)+1, api.ErrMany)
		}
		refused(t, strings.Repeat(s, api.MaxParts-1)+word, len(s)*(api.MaxParts-1)+len(word), api.ErrSyntax)
		refused(t, strings.Repeat(s, api.MaxParts)+"n", len(s)*api.MaxParts, api.ErrSyntax)
	}
}

func TestShowRefuses(t *testing.T) {
	for _, bad := range []string{"", "1", "a-b", "next", "true", "_a", "a b", strings.Repeat("a", 25), "é"} {
		unshown(t, api.Module{Vars: []api.Var{{Name: bad, Bool: true}}}, api.ErrName)
		unshown(t, api.Module{Vars: []api.Var{{Name: bad, Lo: 999}}}, api.ErrName)
		unshown(t, api.Module{Vars: []api.Var{{Name: bad, Bool: true, Lo: 999}}}, api.ErrName)
		unshown(t, api.Module{Defs: []api.Def{{Name: bad}}}, api.ErrName)
		unshown(t, api.Module{Next: []api.Def{{Name: "a", E: yes}, {Name: bad, E: yes}}}, api.ErrName)
		unshown(t, api.Module{Specs: []api.Spec{{Name: bad}}}, api.ErrName)
	}
	for _, v := range []api.Var{{Name: "a", Bool: true, Lo: 1}, {Name: "a", Bool: true, Hi: -1}, {Name: "a", Bool: true, Hi: 999}} {
		unshown(t, api.Module{Vars: []api.Var{{Name: "b"}, v}}, api.ErrForm)
	}
	for _, v := range []api.Var{{Name: "a", Lo: -256}, {Name: "a", Lo: 256}, {Name: "a", Hi: 256}, {Name: "a", Hi: -256}, {Name: "a", Lo: math.MinInt, Hi: 5}, {Name: "a", Lo: 1, Hi: math.MaxInt}, {Name: "a", Lo: math.MaxInt}, {Name: "a", Hi: math.MinInt}} {
		unshown(t, api.Module{Vars: []api.Var{v}}, api.ErrRange)
	}
	shown(t, api.Module{Vars: []api.Var{{Name: "a", Lo: -255, Hi: 255}, {Name: "b", Lo: 255, Hi: -255}}}, "var a : -255 .. 255 ;\nvar b : 255 .. -255 ;\n")
	for _, x := range []struct {
		t api.Term
		e api.Errno
	}{{api.Term{}, api.ErrKind}, {num(256), api.ErrRange}, {op(api.TAnd, yes), api.ErrForm}, {name("next"), api.ErrForm}, {op(api.TNot), api.ErrForm}, {name(""), api.ErrName}} {
		unshown(t, api.Module{Defs: []api.Def{{Name: "a", E: x.t}}}, x.e)
		unshown(t, api.Module{Init: []api.Term{yes, x.t}}, x.e)
		unshown(t, api.Module{Invar: []api.Term{x.t}}, x.e)
		unshown(t, api.Module{Next: []api.Def{{Name: "a", E: x.t}}}, x.e)
		unshown(t, api.Module{Trans: []api.Term{x.t}}, x.e)
		unshown(t, api.Module{Fair: []api.Term{yes, x.t}}, x.e)
		unshown(t, api.Module{Specs: []api.Spec{{Name: "a", F: form(x.t)}}}, x.e)
	}
	unshown(t, api.Module{Specs: []api.Spec{{Name: "a"}}}, api.ErrKind)
	unshown(t, api.Module{Specs: []api.Spec{{Name: "a", F: form(next("a"))}}}, api.ErrPlace)
}

// Each of these modules has two errors, of which the one that comes first is told.
func TestOrderOfErrorsOfShow(t *testing.T) {
	many := make([]api.Term, api.MaxParts+1)
	for i := range many {
		many[i] = yes
	}
	short := many[:api.MaxParts]
	named := make([]api.Def, api.MaxParts+1)
	specs := make([]api.Spec, api.MaxParts+1)
	vars := make([]api.Var, api.MaxParts+1)
	unshown(t, api.Module{Vars: vars}, api.ErrMany)
	unshown(t, api.Module{Vars: vars[1:]}, api.ErrName)
	unshown(t, api.Module{Defs: named}, api.ErrMany)
	unshown(t, api.Module{Defs: named[1:]}, api.ErrName)
	unshown(t, api.Module{Init: many}, api.ErrMany)
	unshown(t, api.Module{Invar: many}, api.ErrMany)
	unshown(t, api.Module{Next: named}, api.ErrMany)
	unshown(t, api.Module{Trans: many}, api.ErrMany)
	unshown(t, api.Module{Fair: many}, api.ErrMany)
	unshown(t, api.Module{Specs: specs}, api.ErrMany)
	unshown(t, api.Module{Specs: specs[1:]}, api.ErrName)
	one := api.Module{Vars: []api.Var{{Name: "a", Bool: true, Lo: 1}}, Defs: named}
	unshown(t, one, api.ErrForm)
	one = api.Module{Defs: []api.Def{{Name: "a", E: num(999)}}, Init: many}
	unshown(t, one, api.ErrRange)
	one = api.Module{Init: []api.Term{{}}, Invar: many}
	unshown(t, one, api.ErrKind)
	one = api.Module{Invar: []api.Term{{}}, Next: named}
	unshown(t, one, api.ErrKind)
	one = api.Module{Next: []api.Def{{Name: "a"}}, Trans: many}
	unshown(t, one, api.ErrKind)
	one = api.Module{Trans: []api.Term{{}}, Fair: many}
	unshown(t, one, api.ErrKind)
	one = api.Module{Fair: []api.Term{{}}, Specs: specs}
	unshown(t, one, api.ErrKind)
	one = api.Module{Fair: many, Specs: []api.Spec{{Name: "a"}}}
	unshown(t, one, api.ErrMany)
	one = api.Module{Fair: short, Specs: []api.Spec{{Name: "a"}}}
	unshown(t, one, api.ErrKind)
	unshown(t, api.Module{Init: []api.Term{num(999), {}}}, api.ErrRange)
	unshown(t, api.Module{Next: []api.Def{{Name: "a", E: num(999)}, {}}}, api.ErrRange)
}

// long returns a term whose string has that many bytes.
func long(many int) api.Term {
	t := op(api.TOr)
	for many > 27+24 {
		t.Kids = append(t.Kids, name(strings.Repeat("a", 24)))
		many -= 27
	}
	if many > 24 {
		first := max(many-27, 1)
		t.Kids = append(t.Kids, name(strings.Repeat("a", first)))
		many -= first + 3
	}
	t.Kids = append(t.Kids, name(strings.Repeat("a", many)))
	return t
}

func TestLengthOfShow(t *testing.T) {
	m := api.Module{}
	const line = 1024
	for range api.MaxParts {
		m.Init = append(m.Init, long(line-len("init  ;\n")))
	}
	s, e := modtext.Show(m)
	if len(s) != api.MaxText || e != api.OK {
		t.Fatal(len(s), e)
	}
	parsed(t, s, m)
	m.Init[9] = long(line - len("init  ;\n") + 1)
	unshown(t, m, api.ErrLong)
	m.Invar = []api.Term{yes}
	unshown(t, m, api.ErrLong)
	m.Specs = []api.Spec{{Name: "a"}}
	unshown(t, m, api.ErrKind)
	m.Specs = make([]api.Spec, api.MaxParts+1)
	unshown(t, m, api.ErrMany)
	unshown(t, api.Module{Fair: []api.Term{tooLong()}}, api.ErrLong)
}

// tooLong returns a valid term whose string has more than MaxText bytes.
func tooLong() api.Term {
	t := op(api.TOr)
	for i := range api.MaxKids {
		kid := op(api.TAnd)
		for j := range api.MaxKids - 2 {
			kid.Kids = append(kid.Kids, name("long_name_"+strconv.Itoa(100*i+j)))
		}
		t.Kids = append(t.Kids, kid)
	}
	return t
}
