package forms_test

import (
	"fmt"
	"math"
	"math/rand"
	"slices"
	"strconv"
	"strings"
	"testing"

	"voussoir/api"
	"voussoir/forms"
	"voussoir/terms"
)

// arity tells for each operator how many Kids it has.
var arity = map[int]int{
	api.FTerm: 0, api.FNot: 1, api.FAnd: 2, api.FOr: 2, api.FImp: 2, api.FEX: 1, api.FEF: 1,
	api.FEG: 1, api.FEU: 2, api.FAX: 1, api.FAF: 1, api.FAG: 1, api.FAU: 2,
}

var yes = api.Term{Op: api.TBool, N: 1}
var p, q, r = name("p"), name("q"), name("r")

func op(k int, kids ...api.Form) api.Form { return api.Form{Op: k, Kids: kids} }
func of(t api.Term) api.Form              { return api.Form{Op: api.FTerm, E: t} }
func word(s string) api.Term              { return api.Term{Op: api.TName, Name: s} }
func name(s string) api.Form              { return of(word(s)) }
func term(k int, kids ...api.Term) api.Term {
	return api.Term{Op: k, Kids: kids}
}

// plain returns a formula of that operator, valid but for the number of Kids.
func plain(k, kids int) api.Form {
	f := op(k, slices.Repeat([]api.Form{p}, kids)...)
	if k == api.FTerm {
		f.E = yes
	}
	return f
}

// chain returns f below many operators of one Kid.
func chain(k, many int, f api.Form) api.Form {
	for range many {
		f = op(k, f)
	}
	return f
}

// wide returns a formula with that many nodes, the last of which is last.
func wide(nodes int, last api.Form) api.Form {
	if nodes <= 1 {
		return last
	}
	if nodes == 2 {
		return op(api.FAX, last)
	}
	left := (nodes - 1) / 2
	return op(api.FAnd, wide(left, p), wide(nodes-1-left, last))
}

func check(t *testing.T, about string, f api.Form, want api.Errno) {
	t.Helper()
	if got := forms.Check(f); got != want {
		t.Errorf("Check of %s: %d; want %d", about, got, want)
	}
	if want == api.OK {
		return
	}
	if forms.Names(f) != nil || forms.Size(f) != 0 || forms.Deep(f) != 0 || forms.Parts(f) != nil {
		t.Errorf("%s is not valid, but has names, a size, a depth or parts", about)
	}
	if want == api.ErrLong { // a comparison might take for ever
		return
	}
	for _, not := range []bool{false, true} {
		if g := forms.Push(f, not); !forms.Same(g, f) {
			t.Errorf("Push of %s: %s", about, brief(g))
		}
	}
}

func TestCheckOperators(t *testing.T) {
	for _, k := range []int{math.MinInt, -1, 0, 14, 15, math.MaxInt} {
		check(t, "an unknown operator", op(k), api.ErrKind)
		check(t, "an unknown operator with a Kid", op(k, p), api.ErrKind)
		check(t, "an unknown operator with a term", api.Form{Op: k, E: yes}, api.ErrKind)
	}
	for k, right := range arity {
		for _, many := range []int{0, 1, 2, 3, 64} {
			want := api.ErrForm
			if right == many {
				want = api.OK
			}
			check(t, "an operator with some Kids", plain(k, many), want)
		}
	}
}

func TestCheckTerms(t *testing.T) {
	for _, x := range []struct {
		t   api.Term
		err api.Errno
	}{
		{api.Term{}, api.ErrKind}, {term(19), api.ErrKind}, {api.Term{Op: api.TNum, N: 256}, api.ErrRange}, {word(""), api.ErrName}, {term(api.TNot), api.ErrForm}, {term(api.TAnd), api.ErrForm},
		{api.Term{Op: api.TNext, Name: "p"}, api.ErrPlace}, {term(api.TAnd, yes, term(api.TNot, api.Term{Op: api.TNext, Name: "p"})), api.ErrPlace}, {term(api.TAnd, api.Term{Op: api.TNext, Name: "p"}, term(api.TNot)), api.ErrForm}, {api.Term{Op: api.TNext}, api.ErrName},
		{negated(64), api.ErrDeep}, {negated(63), api.OK}, {term(api.TAnd, yes), api.OK}, {api.Term{Op: api.TNum, N: 7}, api.OK}, {word("any \x00 text"), api.OK}, {term(api.TAdd, yes, word("x")), api.OK},
	} {
		check(t, "a term", of(x.t), x.err)
		check(t, "a term below", op(api.FAU, p, op(api.FNot, of(x.t))), x.err)
		f := of(x.t)
		f.Kids = []api.Form{p}
		want := x.err
		if want == api.OK {
			want = api.ErrForm
		}
		check(t, "a term with a Kid", f, want)
	}
	for k, many := range arity {
		if k == api.FTerm {
			continue
		}
		for _, e := range []api.Term{yes, {N: 1}, {Name: "x"}, {Op: -1}, {Kids: []api.Term{{}}}, {Op: api.TNext, Name: "p"}, {Op: api.TNum, N: 256}} {
			f := plain(k, many)
			f.E = e
			check(t, "an operator with a term", f, api.ErrForm)
		}
		f := plain(k, many)
		f.E.Kids = []api.Term{}
		check(t, "an operator with an empty list in its term", f, api.OK)
	}
	f := p
	f.Kids = []api.Form{}
	check(t, "a term with an empty list of Kids", f, api.OK)
}

// negated returns a term below many negations.
func negated(many int) api.Term {
	t := yes
	for range many {
		t = term(api.TNot, t)
	}
	return t
}

func TestCheckDepthAndSize(t *testing.T) {
	wrong := api.Form{}
	check(t, "depth 64", chain(api.FNot, 63, p), api.OK)
	check(t, "depth 65", chain(api.FNot, 64, p), api.ErrDeep)
	check(t, "depth 65 with a fault there", chain(api.FEX, 64, wrong), api.ErrDeep)
	check(t, "depth 64 with a fault there", chain(api.FEX, 63, wrong), api.ErrKind)
	check(t, "depth 64 in a second Kid", op(api.FAU, p, chain(api.FAG, 62, p)), api.OK)
	check(t, "depth 65 in a second Kid", op(api.FAU, p, chain(api.FAG, 63, p)), api.ErrDeep)
	check(t, "depth 64 and a term of depth 64", chain(api.FAG, 63, of(negated(63))), api.OK)
	check(t, "depth 2000", chain(api.FNot, 1999, p), api.ErrDeep)
	check(t, "4095 nodes", wide(4095, p), api.OK)
	check(t, "4096 nodes", wide(4096, p), api.OK)
	check(t, "4097 nodes", wide(4097, p), api.ErrLong)
	check(t, "4098 nodes", wide(4098, p), api.ErrLong)
	check(t, "4096 nodes, a fault in the last", wide(4096, wrong), api.ErrKind)
	check(t, "4097 nodes, an unknown last", wide(4097, wrong), api.ErrKind)
	check(t, "4097 nodes, a wrong term in the last", wide(4097, name("")), api.ErrName)
	check(t, "4097 nodes, the last with a next value", wide(4097, of(api.Term{Op: api.TNext, Name: "p"})), api.ErrPlace)
	check(t, "4097 nodes, the last without a Kid", wide(4097, op(api.FNot)), api.ErrForm)
	check(t, "4097 nodes, one behind with a fault", op(api.FAnd, wide(4096, p), wrong), api.ErrLong)
	if n, d := forms.Size(wide(4096, p)), forms.Deep(chain(api.FAX, 63, p)); n != 4096 || d != 64 {
		t.Error(n, d)
	}
	f := p
	for range 62 {
		f = op(api.FAnd, f, f)
	}
	check(t, "a formula whose Kids share memory", f, api.ErrLong)
	if e := forms.Check(chain(api.FNot, 2, f)); e != api.ErrDeep {
		t.Error("such a formula below the deepest level", e)
	}
	for _, not := range []bool{false, true} {
		if g := forms.Push(f, not); g.Op != api.FAnd || g.Kids[1].Kids[0].Op != api.FAnd || forms.Check(g) != api.ErrLong {
			t.Error("Push of a formula whose Kids share memory")
		}
	}
	x := word("x")
	for range 62 {
		x = term(api.TAdd, x, x)
	}
	if g := forms.Push(of(x), true); forms.Check(g) != api.ErrLong || g.E.Op != api.TAdd || g.E.Kids[1].Kids[0].Op != api.TAdd {
		t.Error("Push of a formula whose term has Kids that share memory")
	}
}

func TestCheckOrder(t *testing.T) {
	next := api.Term{Op: api.TNext, Name: "p"}
	check(t, "everything wrong", api.Form{Op: 99, E: next, Kids: []api.Form{{}}}, api.ErrKind)
	check(t, "a wrong term and a Kid", api.Form{Op: api.FTerm, E: api.Term{Op: api.TNum, N: 999}, Kids: []api.Form{{}}}, api.ErrRange)
	check(t, "a next value and a Kid", api.Form{Op: api.FTerm, E: next, Kids: []api.Form{{}}}, api.ErrPlace)
	check(t, "wrong Kids with faults of their own", op(api.FNot, api.Form{}, name("")), api.ErrForm)
	check(t, "a term ahead of the Kid", api.Form{Op: api.FNot, E: yes, Kids: []api.Form{{}}}, api.ErrForm)
	check(t, "the first of two faults", op(api.FAnd, name(""), api.Form{}), api.ErrName)
	check(t, "a fault deep in the first Kid", op(api.FAnd, op(api.FOr, p, op(api.FAU, p)), api.Form{}), api.ErrForm)
	check(t, "a fault in the second Kid", op(api.FEU, p, of(next)), api.ErrPlace)
}

func TestNamesSizeAndDepth(t *testing.T) {
	f := op(api.FAU, op(api.FNot, name("q")), op(api.FImp, of(term(api.TEq, word("b"), term(api.TAdd, word("a"), word("q")))), of(yes)))
	if l := forms.Names(f); !slices.Equal(l, []string{"a", "b", "q"}) {
		t.Error(l)
	}
	if n, d := forms.Size(f), forms.Deep(f); n != 6 || d != 3 {
		t.Error(n, d)
	}
	if n, d, l := forms.Size(of(yes)), forms.Deep(of(yes)), forms.Names(of(yes)); n != 1 || d != 1 || len(l) != 0 {
		t.Error(n, d, l)
	}
	if l := forms.Names(op(api.FAnd, name("Z"), op(api.FEX, name("\xff"+"a")))); !slices.Equal(l, []string{"Z", "\xff" + "a"}) {
		t.Error(l)
	}
}

func TestSameAndPlain(t *testing.T) {
	odd := []api.Form{{}, {Op: 99}, {Op: 1}, {Op: 2}, {E: yes}, {E: word("x")}, {E: word("y")}, {Kids: []api.Form{{}}}, {Kids: []api.Form{{}, {}}}, {Kids: []api.Form{{Op: 1}}}, op(api.FAnd, p, q), op(api.FAnd, q, p), op(api.FOr, p, q), of(term(api.TNot, yes)), {Op: api.FNot, E: yes, Kids: []api.Form{p}}, chain(api.FNot, 3000, p), chain(api.FNot, 2999, p)}
	for i, f := range odd {
		for j, g := range odd {
			if same := forms.Same(f, g); same != (i == j) {
				t.Errorf("Same of %d and %d: %v", i, j, same)
			}
		}
		if !forms.Plain(f) {
			t.Errorf("%d is not plain", i)
		}
	}
	if !forms.Same(api.Form{Kids: []api.Form{}, E: api.Term{Kids: []api.Term{}}}, api.Form{}) {
		t.Error("an empty list is not none")
	}
	for k := -1; k <= 15; k++ {
		want := k < api.FEX || k > api.FAU
		for _, f := range []api.Form{op(k), op(k, p), op(99, p, op(0, op(k))), chain(api.FNot, 2000, op(k)), {Op: k, E: yes, Kids: []api.Form{{}}}} {
			if forms.Plain(f) != want {
				t.Errorf("Plain with the operator %d: %v", k, !want)
			}
		}
	}
	if forms.Plain(op(api.FAnd, op(api.FEX, p), q)) || forms.Plain(op(api.FAnd, p, op(api.FNot, op(api.FAU, p, q)))) {
		t.Error("a path quantifier was overlooked")
	}
}

// brief returns the beginning of a text for f.
func brief(f api.Form) string {
	s := fmt.Sprint(f)
	return s[:min(len(s), 300)]
}

func pushed(t *testing.T, f api.Form, not bool, want api.Form) {
	t.Helper()
	if g := forms.Push(f, not); !forms.Same(g, want) {
		t.Errorf("Push of %s, %v: %s; want %s", brief(f), not, brief(g), brief(want))
	}
}

func TestPush(t *testing.T) {
	no := func(f api.Form) api.Form { return of(term(api.TNot, f.E)) }
	pushed(t, p, false, p)
	pushed(t, p, true, no(p))
	pushed(t, of(term(api.TNot, word("p"))), true, of(term(api.TNot, term(api.TNot, word("p")))))
	pushed(t, op(api.FNot, p), false, no(p))
	pushed(t, op(api.FNot, p), true, p)
	pushed(t, chain(api.FNot, 5, p), false, no(p))
	pushed(t, chain(api.FNot, 5, p), true, p)
	for k, dual := range map[int]int{api.FAnd: api.FOr, api.FOr: api.FAnd} {
		pushed(t, op(k, p, op(api.FNot, q)), false, op(k, p, no(q)))
		pushed(t, op(k, p, op(api.FNot, q)), true, op(dual, no(p), q))
	}
	pushed(t, op(api.FImp, p, q), false, op(api.FOr, no(p), q))
	pushed(t, op(api.FImp, p, q), true, op(api.FAnd, p, no(q)))
	pushed(t, op(api.FImp, op(api.FImp, p, q), r), false, op(api.FOr, op(api.FAnd, p, no(q)), r))
	for k, dual := range map[int]int{api.FEX: api.FAX, api.FEF: api.FAG, api.FEG: api.FAF, api.FAX: api.FEX, api.FAF: api.FEG, api.FAG: api.FEF} {
		pushed(t, op(k, op(api.FNot, p)), false, op(k, no(p)))
		pushed(t, op(k, op(api.FNot, p)), true, op(dual, p))
		pushed(t, op(k, op(api.FImp, p, q)), true, op(dual, op(api.FAnd, p, no(q))))
	}
	for _, k := range []int{api.FEU, api.FAU} {
		f := op(k, op(api.FNot, p), op(api.FImp, q, r))
		g := op(k, no(p), op(api.FOr, no(q), r))
		pushed(t, f, false, g)
		pushed(t, f, true, op(api.FNot, g))
		pushed(t, op(api.FNot, f), false, op(api.FNot, g))
		pushed(t, op(api.FNot, f), true, g)
		pushed(t, op(api.FNot, op(k, p, q)), false, op(api.FNot, op(k, p, q)))
	}
	pushed(t, op(api.FAG, p), true, op(api.FEF, no(p)))
}

func TestPushBeyondTheLimits(t *testing.T) {
	f := chain(api.FAX, 63, of(negated(63)))
	g := forms.Push(f, true)
	if forms.Check(g) != api.ErrDeep || !forms.Same(g, chain(api.FEX, 63, of(negated(64)))) {
		t.Error("the deepest term")
	}
	pushed(t, g, false, g)
	pushed(t, g, true, g)
	full := op(api.FAU, p, q)
	for range 62 {
		full = op(api.FAU, full, q)
	}
	g = forms.Push(full, true)
	if forms.Check(full) != api.OK || forms.Check(g) != api.ErrDeep || g.Op != api.FNot || !forms.Same(g.Kids[0], full) {
		t.Error("the deepest formula")
	}
	pushed(t, g, false, g)
	big := wide(4096, p)
	pushed(t, big, false, big)
	if forms.Check(big) != api.OK || forms.Check(forms.Push(big, true)) != api.OK {
		t.Error("the greatest formula")
	}
}

// random returns a valid formula of that depth or less.
func random(source *rand.Rand, depth int) api.Form {
	if depth <= 1 || source.Intn(6) == 0 {
		return []api.Form{p, q, of(term(api.TNot, word("p"))), of(term(api.TAnd, word("q"), word("r"))), of(yes)}[source.Intn(5)]
	}
	f := op(api.FNot + source.Intn(12))
	if source.Intn(4) == 0 {
		f.Op = api.FNot
	}
	for range arity[f.Op] {
		f.Kids = append(f.Kids, random(source, depth-1))
	}
	return f
}

// space is a graph in which each state has a successor, and the values of p, q and r.
type space struct {
	next   [][]int
	values [][]int
}

var vars = []api.Var{{Name: "p", Bool: true}, {Name: "q", Bool: true}, {Name: "r", Bool: true}}

func randomSpace(source *rand.Rand) space {
	var s space
	states := 1 + source.Intn(6)
	for range states {
		next := []int{source.Intn(states)}
		for range source.Intn(3) {
			next = append(next, source.Intn(states))
		}
		s.next = append(s.next, next)
		s.values = append(s.values, []int{source.Intn(2), source.Intn(2), source.Intn(2)})
	}
	return s
}

// sat returns for each state whether f holds there.
func (s space) sat(f api.Form) []bool {
	var kids [][]bool
	for _, kid := range f.Kids {
		kids = append(kids, s.sat(kid))
	}
	always := slices.Repeat([]bool{true}, len(s.next))
	switch f.Op {
	case api.FTerm:
		return s.each(func(i int) bool {
			v, _ := terms.Eval(vars, f.E, s.values[i], nil)
			return v == 1
		})
	case api.FNot:
		return s.each(func(i int) bool { return !kids[0][i] })
	case api.FAnd:
		return s.each(func(i int) bool { return kids[0][i] && kids[1][i] })
	case api.FOr:
		return s.each(func(i int) bool { return kids[0][i] || kids[1][i] })
	case api.FImp:
		return s.each(func(i int) bool { return !kids[0][i] || kids[1][i] })
	case api.FEX:
		return s.each(func(i int) bool { return s.some(i, kids[0]) })
	case api.FAX:
		return s.each(func(i int) bool { return s.all(i, kids[0]) })
	case api.FEF:
		return s.until(s.some, always, kids[0])
	case api.FAF:
		return s.until(s.all, always, kids[0])
	case api.FEU:
		return s.until(s.some, kids[0], kids[1])
	case api.FAU:
		return s.until(s.all, kids[0], kids[1])
	case api.FEG:
		return s.forever(s.some, kids[0])
	}
	return s.forever(s.all, kids[0])
}

func (s space) each(holds func(i int) bool) []bool {
	var l []bool
	for i := range s.next {
		l = append(l, holds(i))
	}
	return l
}

func (s space) some(i int, l []bool) bool {
	return slices.ContainsFunc(s.next[i], func(j int) bool { return l[j] })
}

func (s space) all(i int, l []bool) bool {
	return !slices.ContainsFunc(s.next[i], func(j int) bool { return !l[j] })
}

func (s space) until(next func(int, []bool) bool, hold, end []bool) []bool {
	l := end
	for range s.next {
		l = s.each(func(i int) bool { return end[i] || hold[i] && next(i, l) })
	}
	return l
}

func (s space) forever(next func(int, []bool) bool, hold []bool) []bool {
	l := hold
	for range s.next {
		l = s.each(func(i int) bool { return hold[i] && next(i, l) })
	}
	return l
}

// normal reports whether FNot occurs above FEU and FAU only, and FImp nowhere.
func normal(f api.Form) bool {
	if f.Op == api.FImp || f.Op == api.FNot && f.Kids[0].Op != api.FEU && f.Kids[0].Op != api.FAU {
		return false
	}
	return !slices.ContainsFunc(f.Kids, func(kid api.Form) bool { return !normal(kid) })
}

func TestPushKeepsTheMeaning(t *testing.T) {
	source := rand.New(rand.NewSource(3))
	for range 4000 {
		f := random(source, 1+source.Intn(6))
		yes, no := forms.Push(f, false), forms.Push(f, true)
		for _, g := range []api.Form{yes, no} {
			if !normal(g) || !slices.Equal(forms.Names(g), forms.Names(f)) || !forms.Same(forms.Push(g, false), g) {
				t.Fatalf("%v is pushed to %v", f, g)
			}
		}
		for range 4 {
			s := randomSpace(source)
			want := s.sat(f)
			if !slices.Equal(s.sat(yes), want) || !slices.Equal(s.sat(no), s.sat(op(api.FNot, f))) {
				t.Fatalf("%v is pushed to %v and %v, which hold elsewhere in %v", f, yes, no, s)
			}
		}
	}
}

func TestPushOfPlainFormulas(t *testing.T) {
	source := rand.New(rand.NewSource(4))
	for range 2000 {
		f := random(source, 6)
		if !forms.Plain(f) {
			continue
		}
		for _, not := range []bool{false, true} {
			g := forms.Push(f, not)
			if !forms.Plain(g) || forms.Check(g) != api.OK {
				t.Fatalf("%v is pushed to %v", f, g)
			}
		}
	}
}

// prefixes returns f and all that is nested in it in pre-order.
func prefixes(f api.Form) []api.Form {
	l := []api.Form{f}
	for _, kid := range f.Kids {
		l = append(l, prefixes(kid)...)
	}
	return l
}

func TestParts(t *testing.T) {
	source := rand.New(rand.NewSource(5))
	for range 3000 {
		f := random(source, 1+source.Intn(7))
		var want []api.Form
		for _, g := range prefixes(f) {
			if !slices.ContainsFunc(want, func(h api.Form) bool { return forms.Same(g, h) }) {
				want = append(want, g)
			}
		}
		if l := forms.Parts(f); !slices.EqualFunc(l, want, forms.Same) {
			t.Fatalf("Parts of %v: %v; want %v", f, l, want)
		}
	}
	if l := forms.Parts(op(api.FAnd, p, p)); len(l) != 2 || !forms.Same(l[0], op(api.FAnd, p, p)) || !forms.Same(l[1], p) {
		t.Error(l)
	}
	f := op(api.FEU, op(api.FEX, q), op(api.FAnd, q, op(api.FEX, q)))
	if l := forms.Parts(f); !slices.EqualFunc(l, []api.Form{f, op(api.FEX, q), q, op(api.FAnd, q, op(api.FEX, q))}, forms.Same) {
		t.Error(l)
	}
}

func TestPartsOfGreatFormulas(t *testing.T) {
	if l := forms.Parts(wide(4095, p)); len(l) != 12 {
		t.Error(len(l))
	}
	if l := forms.Parts(chain(api.FNot, 63, p)); len(l) != 64 {
		t.Error(len(l))
	}
	number := 0
	var distinct func(nodes int) api.Form
	distinct = func(nodes int) api.Form {
		if nodes == 1 {
			number++
			return name("x" + strconv.Itoa(number))
		}
		return op(api.FOr, distinct(nodes/2), distinct(nodes/2))
	}
	f := distinct(4095)
	l := forms.Parts(f)
	if len(l) != 4095 || !slices.EqualFunc(l, prefixes(f), forms.Same) || len(forms.Names(f)) != 2048 {
		t.Error(len(l))
	}
	rows := term(api.TAnd, slices.Repeat([]api.Term{term(api.TOr, slices.Repeat([]api.Term{word(strings.Repeat("x", 24))}, 64)...)}, 63)...)
	f = op(api.FAU, wide(1000, of(rows)), of(rows))
	if l := forms.Parts(f); forms.Check(f) != api.OK || !forms.Same(l[0], f) || !slices.ContainsFunc(l, func(g api.Form) bool { return forms.Same(g, of(rows)) }) {
		t.Error(len(l))
	}
	g := of(rows)
	for range 11 {
		g = op(api.FEU, g, g)
	}
	if l := forms.Parts(g); len(l) != 12 || !forms.Same(l[11], of(rows)) || !forms.Same(l[10], op(api.FEU, of(rows), of(rows))) {
		t.Error(len(l))
	}
	if h := forms.Push(g, true); h.Op != api.FNot || h.Kids[0].Kids[1].Kids[0].Op != api.FEU {
		t.Error("a formula of great terms that share memory")
	}
}

// scribble overwrites all that f leads to.
func scribble(f api.Form) {
	var spoil func(l []api.Term)
	spoil = func(l []api.Term) {
		for i := range l {
			spoil(l[i].Kids)
			l[i] = api.Term{Op: 99}
		}
	}
	spoil(f.E.Kids)
	for i := range f.Kids {
		scribble(f.Kids[i])
		f.Kids[i] = api.Form{Op: 99}
	}
}

func TestAnswersAreNewMemory(t *testing.T) {
	fresh := func() api.Form {
		x := term(api.TAnd, word("q"), term(api.TNot, word("r")))
		return op(api.FAnd, op(api.FAG, of(x)), op(api.FNot, op(api.FAU, p, of(x))))
	}
	for _, not := range []bool{false, true} {
		f := fresh()
		g := forms.Push(f, not)
		want := forms.Push(fresh(), not)
		scribble(f)
		if !forms.Same(g, want) {
			t.Errorf("Push %v shares memory with its argument", not)
		}
	}
	wrong := op(api.FNot, of(term(api.TNot, term(api.TNot))))
	g := forms.Push(wrong, true)
	scribble(wrong)
	if !forms.Same(g, op(api.FNot, of(term(api.TNot, term(api.TNot))))) {
		t.Error("Push of a formula that is not valid shares memory with its argument")
	}
	f := fresh()
	l, want := forms.Parts(f), forms.Parts(fresh())
	scribble(f)
	for i := range l {
		if !forms.Same(l[i], want[i]) {
			t.Errorf("part %d shares memory", i)
		}
		scribble(l[i])
	}
}

// wild returns a formula that is seldom valid.
func wild(source *rand.Rand, depth int) api.Form {
	f := api.Form{Op: source.Intn(16) - 1}
	if f.Op == api.FTerm || source.Intn(20) == 0 {
		f.E = []api.Term{yes, word("p"), {}, {Op: api.TNext, Name: "p"}, {Op: 99}, term(api.TNot), term(api.TNot, yes)}[source.Intn(7)]
	}
	if depth > 1 && f.Op != api.FTerm {
		for range source.Intn(3) {
			f.Kids = append(f.Kids, wild(source, depth-1))
		}
	}
	return f
}

func TestAnyFormula(t *testing.T) {
	source := rand.New(rand.NewSource(6))
	for range 20000 {
		f := wild(source, 1+source.Intn(5))
		if e := forms.Check(f); e != api.OK {
			check(t, brief(f), f, e)
		} else if forms.Size(f) != len(prefixes(f)) || forms.Parts(f) == nil {
			t.Errorf("%s has no size or no parts", brief(f))
		}
		if !forms.Same(f, f) || forms.Plain(f) != !slices.ContainsFunc(prefixes(f), func(g api.Form) bool { return g.Op >= api.FEX && g.Op <= api.FAU }) {
			t.Errorf("%s is not itself, or wrongly plain", brief(f))
		}
	}
}
