package terms_test

import (
	"math"
	"slices"
	"strings"
	"testing"

	"voussoir/api"
	"voussoir/terms"
)

// arity tells for each operator how many Kids it has; TAnd and TOr take more than 1, too.
var arity = map[int]int{
	api.TNum: 0, api.TBool: 0, api.TName: 0, api.TNext: 0, api.TNot: 1, api.TAnd: 1, api.TOr: 1,
	api.TImp: 2, api.TIff: 2, api.TEq: 2, api.TNe: 2, api.TLt: 2, api.TLe: 2,
	api.TAdd: 2, api.TSub: 2, api.TMul: 2, api.TMod: 2, api.TIf: 3,
}

var yes, no = api.Term{Op: api.TBool, N: 1}, api.Term{Op: api.TBool}

func op(k int, kids ...api.Term) api.Term { return api.Term{Op: k, Kids: kids} }
func num(n int) api.Term                  { return api.Term{Op: api.TNum, N: n} }
func name(s string) api.Term              { return api.Term{Op: api.TName, Name: s} }
func next(s string) api.Term              { return api.Term{Op: api.TNext, Name: s} }

// plain returns a term of that operator, valid but for the number of Kids.
func plain(k, kids int) api.Term {
	t := op(k, slices.Repeat([]api.Term{num(1)}, kids)...)
	if k == api.TName || k == api.TNext {
		t.Name = "x"
	}
	return t
}

// chain returns t below many negations.
func chain(many int, t api.Term) api.Term {
	for range many {
		t = op(api.TNot, t)
	}
	return t
}

// wide returns a conjunction with that many nodes, at most 1 + 64 * 65, the last of which is last.
func wide(nodes int, last api.Term) api.Term {
	root := op(api.TAnd)
	for rest := nodes - 1; rest > 0; {
		many := min(rest, 65)
		group := op(api.TOr, slices.Repeat([]api.Term{yes}, many-1)...)
		if many == 1 {
			group = yes
		}
		root.Kids = append(root.Kids, group)
		rest -= many
	}
	at := &root.Kids[len(root.Kids)-1]
	for len(at.Kids) > 0 {
		at = &at.Kids[len(at.Kids)-1]
	}
	*at = last
	return root
}

func check(t *testing.T, about string, x api.Term, want api.Errno) {
	t.Helper()
	if got := terms.Check(x); got != want {
		t.Errorf("Check of %s: %d; want %d", about, got, want)
	}
	if want == api.OK {
		return
	}
	vars := []api.Var{{Name: "x", Hi: 3}}
	if y, e := terms.Type(vars, x, true); y != (api.Type{}) || e != want {
		t.Errorf("Type of %s: %v, %d; want %d", about, y, e, want)
	}
	if v, ok := terms.Eval(vars, x, []int{1}, []int{1}); v != 0 || ok {
		t.Errorf("Eval of %s: %d, %v", about, v, ok)
	}
}

func TestCheckOperators(t *testing.T) {
	for _, k := range []int{math.MinInt, -1, 0, 19, 20, math.MaxInt} {
		check(t, "an unknown operator", op(k), api.ErrKind)
		check(t, "an unknown operator with a Kid", op(k, yes), api.ErrKind)
	}
	for k, right := range arity {
		for _, many := range []int{0, 1, 2, 3, 4, 63, 64, 65, 100} {
			want := api.ErrForm
			if right == many || (k == api.TAnd || k == api.TOr) && many >= 1 && many <= 64 {
				want = api.OK
			}
			check(t, "an operator with some Kids", plain(k, many), want)
		}
	}
}

func TestCheckNumbersAndNames(t *testing.T) {
	for k, many := range arity {
		for _, n := range []int{math.MinInt, -256, -255, -1, 0, 1, 2, 255, 256, math.MaxInt} {
			x := plain(k, many)
			x.N = n
			want := api.ErrRange
			if n == 0 || k == api.TBool && n == 1 || k == api.TNum && n >= -255 && n <= 255 {
				want = api.OK
			}
			check(t, "an operator with an N", x, want)
		}
		for _, s := range []string{"", "x", "\x00", strings.Repeat("a", 24), strings.Repeat("a", 25), strings.Repeat("ä", 12), strings.Repeat("ä", 13)} {
			x := plain(k, many)
			x.Name = s
			want := api.OK
			if (k == api.TName || k == api.TNext) != (s != "") || len(s) > 24 {
				want = api.ErrName
			}
			check(t, "an operator with a Name", x, want)
		}
	}
}

func TestCheckDepth(t *testing.T) {
	check(t, "depth 64", chain(63, yes), api.OK)
	check(t, "depth 65", chain(64, yes), api.ErrDeep)
	check(t, "depth 65 with a fault there", chain(64, api.Term{}), api.ErrDeep)
	check(t, "depth 64 with a fault there", chain(63, api.Term{}), api.ErrKind)
	check(t, "depth 64 in a second Kid", op(api.TImp, no, chain(62, yes)), api.OK)
	check(t, "depth 65 in a second Kid", op(api.TImp, no, chain(63, yes)), api.ErrDeep)
	check(t, "depth 2000", chain(1999, yes), api.ErrDeep)
}

func TestCheckSize(t *testing.T) {
	if s := terms.Size(wide(4096, yes)); s != 4096 {
		t.Errorf("Size %d; want 4096", s)
	}
	check(t, "4095 nodes", wide(4095, yes), api.OK)
	check(t, "4096 nodes", wide(4096, yes), api.OK)
	check(t, "4097 nodes", wide(4097, yes), api.ErrLong)
	check(t, "4098 nodes", wide(4098, yes), api.ErrLong)
	check(t, "4096 nodes, a fault in the last", wide(4096, api.Term{}), api.ErrKind)
	check(t, "4097 nodes, an unknown last", wide(4097, api.Term{}), api.ErrKind)
	check(t, "4097 nodes, the last out of range", wide(4097, num(256)), api.ErrRange)
	check(t, "4097 nodes, the last without a name", wide(4097, name("")), api.ErrName)
	check(t, "4097 nodes, the last without a Kid", wide(4097, op(api.TNot)), api.ErrForm)
	check(t, "4098 nodes, a fault in the last", wide(4098, api.Term{}), api.ErrLong)
	x := name("x")
	for range 62 {
		x = op(api.TAdd, x, x)
	}
	check(t, "a term whose Kids share memory", x, api.ErrLong)
	check(t, "such a term below the deepest level", chain(2, x), api.ErrDeep)
}

func TestCheckOrder(t *testing.T) {
	check(t, "everything wrong", api.Term{Op: 99, N: 1, Name: "x", Kids: []api.Term{{}}}, api.ErrKind)
	check(t, "a wrong N, Name and Kids", api.Term{Op: api.TNot, N: 1, Name: "x"}, api.ErrRange)
	check(t, "a wrong Name and Kids", api.Term{Op: api.TNot, Name: "x"}, api.ErrName)
	check(t, "wrong Kids with faults of their own", op(api.TNot, api.Term{}, num(256)), api.ErrForm)
	check(t, "the first of two faults", op(api.TAnd, yes, num(256), api.Term{}), api.ErrRange)
	check(t, "a fault deep in the first Kid", op(api.TAnd, op(api.TOr, no, op(api.TIff, no)), api.Term{}), api.ErrForm)
	check(t, "a fault in the last Kid", op(api.TIf, yes, no, name("")), api.ErrName)
	check(t, "the parent ahead of the Kid", api.Term{Op: api.TNot, N: 1, Kids: []api.Term{{}}}, api.ErrRange)
	check(t, "a fault of the form ahead of one of the types", op(api.TAdd, yes, op(api.TNot)), api.ErrForm)
}

// scope has variables of all kinds; some of them are out of the limits.
var scope = []api.Var{
	{Name: "x", Lo: -1, Hi: 3}, {Name: "b", Bool: true}, {Name: "c", Bool: true, Lo: 9, Hi: -9}, {Name: "x", Bool: true},
	{Name: "wide", Hi: 4096}, {Name: "wider", Hi: 4097}, {Name: "turned", Lo: 1}, {Name: "all", Lo: math.MinInt, Hi: math.MaxInt},
	{Name: "high", Lo: 1<<20 - 1, Hi: 1 << 20}, {Name: "higher", Lo: 1 << 20, Hi: 1<<20 + 1}, {Name: "least", Lo: math.MinInt, Hi: math.MinInt},
	{Name: "low", Lo: -1 << 20, Hi: 1 - 1<<20}, {Name: "lower", Lo: -1<<20 - 1, Hi: -1 << 20}, {Name: "back", Lo: math.MaxInt, Hi: math.MinInt},
	{Name: "y", Lo: -96, Hi: 4000}, {Name: "z", Lo: 1024, Hi: 1024}, {Name: "zz", Lo: 1025, Hi: 1025}, {Name: "", Hi: 5},
}

func typed(t *testing.T, x api.Term, next bool, want api.Type, fault api.Errno) {
	t.Helper()
	if y, e := terms.Type(scope, x, next); y != want || e != fault {
		t.Errorf("Type of %v: %v, %d; want %v, %d", x, y, e, want, fault)
	}
}

func is(t *testing.T, x api.Term, lo, hi int) {
	t.Helper()
	typed(t, x, false, api.Type{Lo: lo, Hi: hi}, api.OK)
}

func truth(t *testing.T, x api.Term) {
	t.Helper()
	typed(t, x, false, api.Type{Bool: true}, api.OK)
}

func refused(t *testing.T, x api.Term, fault api.Errno) {
	t.Helper()
	typed(t, x, false, api.Type{}, fault)
}

func TestTypeOfLeaves(t *testing.T) {
	is(t, num(-255), -255, -255)
	is(t, num(255), 255, 255)
	truth(t, yes)
	truth(t, no)
	is(t, name("x"), -1, 3)
	truth(t, name("b"))
	truth(t, name("c"))
	is(t, name("wide"), 0, 4096)
	is(t, name("high"), 1<<20-1, 1<<20)
	is(t, name("low"), -1<<20, 1-1<<20)
	for _, s := range []string{"wider", "turned", "all", "higher", "least", "lower", "back"} {
		refused(t, name(s), api.ErrRange)
		typed(t, next(s), true, api.Type{}, api.ErrRange)
		refused(t, next(s), api.ErrPlace)
	}
	refused(t, name("X"), api.ErrName)
	refused(t, next("X"), api.ErrName)
	typed(t, next("X"), true, api.Type{}, api.ErrName)
	refused(t, next("x"), api.ErrPlace)
	typed(t, next("x"), true, api.Type{Lo: -1, Hi: 3}, api.OK)
	typed(t, next("b"), true, api.Type{Bool: true}, api.OK)
	if y, e := terms.Type(nil, name("x"), true); y != (api.Type{}) || e != api.ErrName {
		t.Error(y, e)
	}
}

func TestTypeOfTruths(t *testing.T) {
	x, b, c := name("x"), name("b"), name("c")
	for k, many := range map[int]int{api.TNot: 1, api.TAnd: 3, api.TOr: 3, api.TImp: 2, api.TIff: 2} {
		kids := slices.Repeat([]api.Term{b}, many)
		truth(t, op(k, kids...))
		for i := range kids {
			kids[i] = x
			refused(t, op(k, kids...), api.ErrType)
			kids[i] = b
		}
	}
	truth(t, op(api.TAnd, b))
	truth(t, op(api.TOr, slices.Repeat([]api.Term{c}, 64)...))
	refused(t, op(api.TOr, x), api.ErrType)
	for _, k := range []int{api.TEq, api.TNe} {
		truth(t, op(k, b, c))
		truth(t, op(k, x, num(7)))
		refused(t, op(k, b, x), api.ErrType)
		refused(t, op(k, x, b), api.ErrType)
	}
	for _, k := range []int{api.TLt, api.TLe} {
		truth(t, op(k, x, num(-9)))
		for _, kids := range [][]api.Term{{b, x}, {x, b}, {b, c}} {
			refused(t, op(k, kids...), api.ErrType)
		}
	}
}

func TestTypeOfNumbers(t *testing.T) {
	x, y, b := name("x"), name("y"), name("b")
	is(t, op(api.TAdd, x, num(1)), 0, 4)
	is(t, op(api.TSub, x, num(5)), -6, -2)
	is(t, op(api.TSub, num(5), x), 2, 6)
	is(t, op(api.TSub, x, x), -4, 4)
	is(t, op(api.TMul, x, num(-2)), -6, 2)
	is(t, op(api.TMul, x, x), -3, 9)
	is(t, op(api.TMul, op(api.TMul, num(200), x), x), -600, 1800)
	is(t, op(api.TMod, x, num(3)), 0, 2)
	is(t, op(api.TMod, y, num(1)), 0, 0)
	is(t, op(api.TMod, num(1), num(255)), 0, 254)
	is(t, op(api.TIf, b, x, num(7)), -1, 7)
	is(t, op(api.TIf, b, num(7), x), -1, 7)
	is(t, op(api.TIf, b, num(1), num(2)), 1, 2)
	is(t, op(api.TIf, b, x, y), -96, 4000)
	truth(t, op(api.TIf, b, b, yes))
	for _, k := range []int{api.TAdd, api.TSub, api.TMul, api.TMod} {
		for _, kids := range [][]api.Term{{b, num(1)}, {x, b}, {b, b}, {b, num(0)}, {x, yes}} {
			refused(t, op(k, kids...), api.ErrType)
		}
	}
	for _, kids := range [][]api.Term{{x, b, b}, {x, x, x}, {b, x, b}, {b, b, x}, {x, b, x}} {
		refused(t, op(api.TIf, kids...), api.ErrType)
	}
	for _, by := range []api.Term{num(0), num(-1), x, op(api.TAdd, num(1), num(1)), name("z")} {
		refused(t, op(api.TMod, x, by), api.ErrRange)
	}
}

func TestTypeAtTheLimits(t *testing.T) {
	x, b, wide := name("x"), name("b"), name("wide")
	is(t, op(api.TAdd, wide, num(100)), 100, 4196)
	refused(t, op(api.TAdd, wide, x), api.ErrRange)
	is(t, op(api.TAdd, name("y"), op(api.TSub, num(0), num(1))), -97, 3999)
	refused(t, op(api.TSub, name("y"), op(api.TMul, x, num(1))), api.ErrRange)
	is(t, op(api.TMul, name("z"), x), -1024, 3072)
	is(t, op(api.TMul, name("z"), op(api.TSub, x, num(255))), -256*1024, -252*1024)
	refused(t, op(api.TMul, name("zz"), x), api.ErrRange)
	is(t, op(api.TMul, name("z"), name("z")), 1<<20, 1<<20)
	refused(t, op(api.TMul, name("z"), name("zz")), api.ErrRange)
	minus := op(api.TMul, name("z"), op(api.TSub, num(0), name("z")))
	is(t, minus, -1<<20, -1<<20)
	refused(t, op(api.TSub, minus, num(1)), api.ErrRange)
	refused(t, op(api.TMul, name("high"), name("low")), api.ErrRange)
	refused(t, op(api.TMul, name("high"), name("high")), api.ErrRange)
	refused(t, op(api.TAdd, name("high"), num(1)), api.ErrRange)
	refused(t, op(api.TSub, name("low"), num(1)), api.ErrRange)
	is(t, op(api.TAdd, name("high"), num(-255)), 1<<20-256, 1<<20-255)
	is(t, op(api.TIf, b, num(-100), op(api.TAdd, name("y"), num(-4))), -100, 3996)
	is(t, op(api.TIf, b, num(-96), name("y")), -96, 4000)
	refused(t, op(api.TIf, b, num(-97), name("y")), api.ErrRange)
	refused(t, op(api.TIf, b, name("y"), op(api.TSub, num(-96), num(1))), api.ErrRange)
	refused(t, op(api.TIf, b, name("low"), name("high")), api.ErrRange)
	refused(t, op(api.TIf, b, name("high"), name("low")), api.ErrRange)
	is(t, op(api.TMod, name("wide"), num(7)), 0, 6)
	truth(t, op(api.TLt, name("low"), name("high")))
}

func TestTypeVisitsTheKidsFirst(t *testing.T) {
	x, b, lost, far := name("x"), name("b"), name("lost"), name("wider")
	refused(t, op(api.TAdd, b, lost), api.ErrName)
	refused(t, op(api.TAdd, lost, far), api.ErrName)
	refused(t, op(api.TAdd, far, lost), api.ErrRange)
	refused(t, op(api.TAdd, b, next("x")), api.ErrPlace)
	refused(t, op(api.TAnd, op(api.TNot, x), far), api.ErrType)
	refused(t, op(api.TAnd, far, op(api.TNot, x)), api.ErrRange)
	refused(t, op(api.TIf, x, b, op(api.TMod, x, num(0))), api.ErrRange)
	refused(t, op(api.TIf, op(api.TEq, x, b), op(api.TMod, x, num(0)), lost), api.ErrType)
	refused(t, op(api.TMod, b, num(0)), api.ErrType)
	refused(t, op(api.TMod, x, b), api.ErrType)
	refused(t, op(api.TAnd, b, op(api.TOr, op(api.TLt, b, x), lost)), api.ErrType)
	typed(t, op(api.TAnd, op(api.TEq, next("x"), x), next("b")), true, api.Type{Bool: true}, api.OK)
	typed(t, op(api.TAnd, next("b"), op(api.TNot, next("x"))), true, api.Type{}, api.ErrType)
}

// Where the operands' ranges are those of variables, the least and the greatest result are reached.
func TestTypeIsAsNarrowAsItCanBe(t *testing.T) {
	bounds := []int{-5, -2, 0, 1, 4}
	for _, k := range []int{api.TAdd, api.TSub, api.TMul} {
		for i, a := range bounds {
			for _, b := range bounds[i:] {
				for j, c := range bounds {
					for _, d := range bounds[j:] {
						vars := []api.Var{{Name: "p", Lo: a, Hi: b}, {Name: "q", Lo: c, Hi: d}}
						var all []int
						for p := a; p <= b; p++ {
							for q := c; q <= d; q++ {
								all = append(all, map[int]int{api.TAdd: p + q, api.TSub: p - q, api.TMul: p * q}[k])
							}
						}
						y, e := terms.Type(vars, op(k, name("p"), name("q")), false)
						if e != api.OK || y != (api.Type{Lo: slices.Min(all), Hi: slices.Max(all)}) {
							t.Errorf("operator %d on %d..%d and %d..%d: %v, %d", k, a, b, c, d, y, e)
						}
					}
				}
			}
		}
	}
}

func eval(t *testing.T, vars []api.Var, x api.Term, s, n []int, want int, found bool) {
	t.Helper()
	if v, ok := terms.Eval(vars, x, s, n); v != want || ok != found {
		t.Errorf("Eval of %v at %v, %v: %d, %v; want %d, %v", x, s, n, v, ok, want, found)
	}
}

func TestEvalOfEachOperator(t *testing.T) {
	vars := []api.Var{{Name: "a", Bool: true}, {Name: "b", Bool: true}, {Name: "c", Bool: true}}
	a, b, c := name("a"), name("b"), name("c")
	rows := map[string]api.Term{ // the values where a, b, c are 000, 100, 010, 110, 001, ..
		"10101010": op(api.TNot, a), "01010101": op(api.TAnd, a), "00000001": op(api.TAnd, a, b, c),
		"01111111": op(api.TOr, a, b, c), "10111011": op(api.TImp, a, b), "10011001": op(api.TIff, a, b),
		"10100101": op(api.TEq, a, c), "01011010": op(api.TNe, a, c), "00011011": op(api.TIf, a, b, c),
		"11111111": yes, "00000000": no,
	}
	for want, x := range rows {
		for i := range want {
			eval(t, vars, x, []int{i & 1, i >> 1 & 1, i >> 2}, nil, int(want[i]-'0'), true)
		}
	}
}

func TestEvalOfNumbers(t *testing.T) {
	vars := []api.Var{{Name: "x", Lo: -9, Hi: 9}, {Name: "y", Lo: -9, Hi: 9}}
	x, y := name("x"), name("y")
	number := map[bool]int{true: 1}
	for i := -9; i <= 9; i++ {
		for j := -9; j <= 9; j++ {
			s := []int{i, j}
			eval(t, vars, op(api.TAdd, x, y), s, nil, i+j, true)
			eval(t, vars, op(api.TSub, x, y), s, nil, i-j, true)
			eval(t, vars, op(api.TMul, x, y), s, nil, i*j, true)
			eval(t, vars, op(api.TEq, x, y), s, nil, number[i == j], true)
			eval(t, vars, op(api.TNe, x, y), s, nil, number[i != j], true)
			eval(t, vars, op(api.TLt, x, y), s, nil, number[i < j], true)
			eval(t, vars, op(api.TLe, x, y), s, nil, number[i <= j], true)
			eval(t, vars, op(api.TIf, op(api.TLt, x, y), x, y), s, nil, min(i, j), true)
			if j > 0 {
				eval(t, vars, op(api.TMod, x, num(j)), s, nil, i-j*int(math.Floor(float64(i)/float64(j))), true)
			}
		}
	}
	eval(t, vars, op(api.TMod, op(api.TSub, x, num(5)), num(4)), []int{2, 0}, nil, 1, true)
	eval(t, vars, op(api.TSub, x, num(5)), []int{2, 0}, nil, -3, true)
	eval(t, vars, num(-255), []int{0, 0}, nil, -255, true)
}

func TestEvalOfNextValues(t *testing.T) {
	vars := []api.Var{{Name: "x", Hi: 3}, {Name: "b", Bool: true}, {Name: "x", Lo: 7, Hi: 9}}
	step := op(api.TEq, next("x"), op(api.TAdd, name("x"), num(1)))
	eval(t, vars, step, []int{1, 0, 7}, []int{2, 0, 7}, 1, true)
	eval(t, vars, step, []int{1, 0, 7}, []int{1, 0, 2}, 0, true)
	eval(t, vars, next("b"), []int{0, 1, 7}, []int{0, 0, 7}, 0, true)
	for _, n := range [][]int{nil, {}, {2}, {2, 0}, {2, 0, 7, 0}} {
		eval(t, vars, step, []int{1, 0, 7}, n, 0, false)
		eval(t, vars, op(api.TIf, yes, num(1), next("x")), []int{1, 0, 7}, n, 0, false)
		eval(t, vars, name("x"), []int{1, 0, 7}, n, 1, true)
		eval(t, vars, name("x"), n, []int{1, 0, 7}, 0, false)
		eval(t, vars, num(4), n, []int{1, 0, 7}, 0, false)
		eval(t, vars, next("x"), n, []int{1, 0, 7}, 0, false)
	}
	eval(t, nil, num(4), nil, nil, 4, true)
	eval(t, nil, num(4), nil, []int{1}, 4, true)
	eval(t, nil, num(4), []int{1}, nil, 0, false)
	eval(t, vars, name("lost"), []int{1, 0, 7}, []int{1, 0, 7}, 0, false)
	eval(t, vars, op(api.TNot, name("x")), []int{1, 0, 7}, nil, 0, false)
	eval(t, vars, op(api.TMod, name("x"), num(0)), []int{1, 0, 7}, nil, 0, false)
	eval(t, vars, op(api.TAnd), []int{1, 0, 7}, nil, 0, false)
}

func TestEvalWhateverTheValuesAre(t *testing.T) {
	const limit = 1 << 53
	vars := []api.Var{{Name: "x", Hi: 3}, {Name: "b", Bool: true}, {Name: "y", Hi: 3}}
	x, b, y := name("x"), name("b"), name("y")
	at := func(p, q, r int) []int { return []int{p, q, r} }
	for _, n := range []int{limit, -limit, 4, -1, 1000} {
		eval(t, vars, x, at(n, 0, 0), nil, n, true)
		eval(t, vars, next("x"), at(0, 0, 0), at(n, 0, 0), n, true)
		eval(t, vars, op(api.TMul, x, num(-1)), at(n, 0, 0), nil, -n, true)
	}
	for _, n := range []int{limit + 1, -limit - 1, math.MaxInt, math.MinInt} {
		eval(t, vars, x, at(n, 0, 0), nil, 0, false)
		eval(t, vars, next("x"), at(0, 0, 0), at(n, 0, 0), 0, false)
		eval(t, vars, op(api.TIf, yes, y, x), at(n, 0, 0), nil, 0, false)
		eval(t, vars, op(api.TOr, yes, op(api.TLt, x, y)), at(n, 0, 0), nil, 0, false)
		eval(t, vars, op(api.TMod, x, num(1)), at(n, 0, 0), nil, 0, false)
		eval(t, vars, op(api.TAdd, y, num(1)), at(n, 0, 2), nil, 3, true)
	}
	for _, n := range []int{1, 2, -1, math.MaxInt, math.MinInt} {
		eval(t, vars, b, at(0, n, 0), nil, 1, true)
		eval(t, vars, next("b"), at(0, 0, 0), at(0, n, 0), 1, true)
		eval(t, vars, op(api.TEq, b, yes), at(0, n, 0), nil, 1, true)
		eval(t, vars, op(api.TAnd, b, yes), at(0, n, 0), nil, 1, true)
	}
	eval(t, vars, op(api.TAdd, x, num(1)), at(limit-1, 0, 0), nil, limit, true)
	eval(t, vars, op(api.TAdd, x, num(1)), at(limit, 0, 0), nil, 0, false)
	eval(t, vars, op(api.TSub, x, num(1)), at(1-limit, 0, 0), nil, -limit, true)
	eval(t, vars, op(api.TSub, x, num(1)), at(-limit, 0, 0), nil, 0, false)
	eval(t, vars, op(api.TSub, op(api.TAdd, x, num(1)), num(1)), at(limit, 0, 0), nil, 0, false)
	eval(t, vars, op(api.TSub, x, y), at(0, 0, -limit), nil, limit, true)
	eval(t, vars, op(api.TMul, x, y), at(1<<27, 0, -1<<26), nil, -limit, true)
	eval(t, vars, op(api.TMul, x, y), at(1<<27, 0, 1<<26+1), nil, 0, false)
	eval(t, vars, op(api.TMul, op(api.TMul, x, y), num(0)), at(limit, 0, limit), nil, 0, false)
	eval(t, vars, op(api.TMod, x, num(255)), at(-limit, 0, 0), nil, (255-limit%255)%255, true)
	eval(t, vars, op(api.TIf, b, x, op(api.TMul, y, y)), at(5, 1, limit), nil, 0, false)
}

// some makes valid terms, one after the other.
type some struct{ seed uint32 }

func (s *some) number(below int) int {
	s.seed = s.seed*1664525 + 1013904223
	return int(s.seed>>16) % below
}

func (s *some) of(l ...int) int { return l[s.number(len(l))] }

var small = []api.Var{{Name: "p", Lo: -2, Hi: 2}, {Name: "q", Lo: 1, Hi: 3}, {Name: "r", Bool: true}}

// integer returns a term that is an integer, if its range is within the limits.
func (s *some) integer(depth int) api.Term {
	if depth == 0 {
		return []api.Term{num(s.number(7) - 3), name("p"), name("q"), next("p"), next("q")}[s.number(5)]
	}
	switch s.number(3) {
	case 0:
		return op(api.TMod, s.integer(depth-1), num(1+s.number(5)))
	case 1:
		return op(api.TIf, s.truth(depth-1), s.integer(depth-1), s.integer(depth-1))
	}
	return op(s.of(api.TAdd, api.TSub, api.TMul), s.integer(depth-1), s.integer(depth-1))
}

// truth returns a Boolean term.
func (s *some) truth(depth int) api.Term {
	if depth == 0 {
		return []api.Term{yes, no, name("r"), next("r")}[s.number(4)]
	}
	switch s.number(5) {
	case 0:
		return op(api.TNot, s.truth(depth-1))
	case 1:
		return op(s.of(api.TAnd, api.TOr), s.truth(depth-1), s.truth(depth-1), s.truth(depth-1))
	case 2:
		return op(s.of(api.TImp, api.TIff, api.TEq, api.TNe), s.truth(depth-1), s.truth(depth-1))
	case 3:
		return op(api.TIf, s.truth(depth-1), s.truth(depth-1), s.truth(depth-1))
	}
	return op(s.of(api.TEq, api.TNe, api.TLt, api.TLe), s.integer(depth-1), s.integer(depth-1))
}

// state returns values in the ranges of small.
func (s *some) state() []int {
	return []int{s.number(5) - 2, s.number(3) + 1, s.number(2)}
}

func TestDerived(t *testing.T) {
	s := &some{11}
	right := 0
	for i := range 3000 {
		x := s.truth(s.number(4))
		if i%2 == 0 {
			x = s.integer(s.number(4))
		}
		y, e := terms.Type(small, x, true)
		if e == api.ErrRange {
			continue
		}
		right++
		if e != api.OK || y.Bool != (i%2 == 1) {
			t.Fatalf("Type of %v: %v, %d", x, y, e)
		}
		for range 20 {
			now, then := s.state(), s.state()
			v, ok := terms.Eval(small, x, now, then)
			if !ok || y.Bool && v != 0 && v != 1 || !y.Bool && (v < y.Lo || v > y.Hi) {
				t.Fatalf("%v of the type %v at %v, %v: %d, %v", x, y, now, then, v, ok)
			}
			eval(t, small, terms.Put(x, "q", num(now[1])), now, then, v, true)
			others := append([]api.Var{{Name: "other", Lo: 1, Hi: 0}}, small...)
			eval(t, others, x, append([]int{math.MaxInt}, now...), append([]int{math.MinInt}, then...), v, true)
			if used, later := terms.Names(x); !slices.Contains(used, "p") && !slices.Contains(later, "r") {
				eval(t, small, x, []int{now[0] + 1, now[1], now[2]}, []int{then[0], then[1], 1 - then[2]}, v, true)
			}
		}
	}
	if right < 2000 {
		t.Error(right)
	}
}

func TestNames(t *testing.T) {
	cases := []struct {
		t         api.Term
		now, next []string
	}{
		{num(1), nil, nil},
		{name("b"), []string{"b"}, nil},
		{next("b"), nil, []string{"b"}},
		{op(api.TOr, name("b"), next("x"), name("a"), name("b"), op(api.TNot, next("x")), next("c")), []string{"a", "b"}, []string{"c", "x"}},
		{op(99, name(""), op(api.TName), name("Z"), name("a"), name("aa"), name("B")), []string{"", "B", "Z", "a", "aa"}, nil},
		{api.Term{Op: api.TName, Name: "out", Kids: []api.Term{next("\xff"), next("é"), name("in")}}, []string{"in", "out"}, []string{"é", "\xff"}},
		{api.Term{Op: api.TNot, Name: "x", Kids: []api.Term{{Op: api.TNum, Name: "y"}, {Name: "z"}}}, nil, nil},
		{chain(300, name("deep")), []string{"deep"}, nil},
	}
	for _, c := range cases {
		if now, next := terms.Names(c.t); !slices.Equal(now, c.now) || !slices.Equal(next, c.next) {
			t.Errorf("Names of %v: %q, %q; want %q, %q", c.t, now, next, c.now, c.next)
		}
	}
}

func TestSizeAndDeep(t *testing.T) {
	cases := []struct {
		t          api.Term
		size, deep int
	}{
		{api.Term{}, 1, 1},
		{op(api.TAnd), 1, 1},
		{op(99, op(98), op(-1, op(0))), 4, 3},
		{op(api.TIf, chain(3, no), yes, chain(1, no)), 8, 5},
		{op(api.TIf, no, yes, chain(4, no)), 8, 6},
		{wide(4100, yes), 4100, 3},
		{chain(1<<16-1, no), 1 << 16, 1 << 16},
	}
	for i, c := range cases {
		if s, d := terms.Size(c.t), terms.Deep(c.t); s != c.size || d != c.deep {
			t.Errorf("case %d: %d, %d; want %d, %d", i, s, d, c.size, c.deep)
		}
	}
}

func TestSame(t *testing.T) {
	different := []api.Term{
		{}, yes, no, num(0), num(1), num(256), name(""), name("x"), name("X"), next("x"), {Op: api.TNum, Name: "x"}, {Op: api.TName, N: 1, Name: "x"},
		op(api.TNot, yes), op(api.TNot, no), op(api.TNot), op(api.TAnd, yes), op(api.TAnd, yes, no), op(api.TAnd, no, yes), op(api.TAnd, yes, no, no),
		op(api.TOr, yes, no), op(api.TAnd, yes, op(api.TNot, no)), op(api.TAnd, yes, op(api.TNot, yes)), op(99, api.Term{}), op(99, op(99)),
		chain(70, yes), chain(71, yes), chain(70, no),
	}
	for i, a := range different {
		for j, b := range different {
			if terms.Same(a, b) != (i == j) {
				t.Errorf("Same(%v, %v) = %v", a, b, i != j)
			}
		}
	}
	if !terms.Same(api.Term{Kids: []api.Term{}}, api.Term{}) || !terms.Same(chain(1<<16-1, no), chain(1<<16-1, no)) {
		t.Error("no Kids, or deep terms")
	}
}

func put(t *testing.T, x api.Term, s string, by, want api.Term) {
	t.Helper()
	if got := terms.Put(x, s, by); !terms.Same(got, want) {
		t.Errorf("Put(%v, %q, %v) = %v; want %v", x, s, by, got, want)
	}
}

func TestPut(t *testing.T) {
	a, b, x := name("a"), name("b"), op(api.TAdd, name("a"), num(256))
	put(t, a, "a", x, x)
	put(t, b, "a", x, b)
	put(t, next("a"), "a", x, next("a"))
	put(t, name("A"), "a", x, name("A"))
	put(t, op(api.TIf, a, op(api.TNot, a), op(api.TMod, b, a)), "a", b, op(api.TIf, b, op(api.TNot, b), op(api.TMod, b, b)))
	put(t, op(api.TEq, next("a"), a), "a", next("b"), op(api.TEq, next("a"), next("b")))
	put(t, op(99, a, api.Term{Op: api.TNot, Name: "a", N: 5}), "a", api.Term{}, op(99, api.Term{}, api.Term{Op: api.TNot, Name: "a", N: 5}))
	put(t, api.Term{Op: api.TName, Name: "a", N: 3, Kids: []api.Term{b}}, "a", num(1), num(1))
	put(t, api.Term{Op: api.TName, Name: "b", N: 3, Kids: []api.Term{a}}, "a", num(1), api.Term{Op: api.TName, Name: "b", N: 3, Kids: []api.Term{num(1)}})
	put(t, op(api.TAnd, name(""), a), "", yes, op(api.TAnd, yes, a))
	put(t, chain(100, a), "a", chain(100, b), chain(200, b))
	put(t, op(api.TAnd, a, a, a), "a", wide(3000, yes), op(api.TAnd, wide(3000, yes), wide(3000, yes), wide(3000, yes)))
}

func TestPutAgainAndAgain(t *testing.T) {
	double := op(api.TAdd, name("a"), name("a"))
	x := double
	for range 60 { // the result has 2^62 - 1 nodes
		x = terms.Put(double, "a", x)
	}
	check(t, "a doubled term", x, api.ErrLong)
}

func TestPutSharesNothing(t *testing.T) {
	t1 := op(api.TAnd, name("a"), op(api.TNot, name("b")), name("a"))
	x := op(api.TOr, yes, op(api.TNot, no))
	want := op(api.TAnd, op(api.TOr, yes, op(api.TNot, no)), op(api.TNot, name("b")), op(api.TOr, yes, op(api.TNot, no)))
	got := terms.Put(t1, "a", x)
	t1.Kids[1].Kids[0], t1.Kids[2] = num(1), num(1)
	x.Kids[0], x.Kids[1].Kids[0] = num(2), num(2)
	if !terms.Same(got, want) {
		t.Errorf("a later change of an argument is seen: %v", got)
	}
	got.Kids[0].Kids[1].Kids[0] = num(3)
	got.Kids[1].Kids[0] = num(4)
	if !terms.Same(got.Kids[2], want.Kids[2]) || !terms.Same(x.Kids[1].Kids[0], num(2)) || !terms.Same(t1.Kids[1].Kids[0], num(1)) {
		t.Error("a change of a result is seen elsewhere")
	}
}

func TestArgumentsStayAsTheyAre(t *testing.T) {
	vars := slices.Clone(scope)
	x := op(api.TAnd, name("b"), op(api.TEq, op(api.TMul, name("x"), next("x")), num(2)))
	y := op(api.TAnd, name("b"), op(api.TEq, op(api.TMul, name("x"), next("x")), num(2)))
	s, n := make([]int, len(vars)), make([]int, len(vars))
	s[0], n[0], s[1] = 2, 1, -8
	eval(t, vars, x, s, n, 1, true)
	terms.Type(vars, x, true)
	terms.Names(x)
	terms.Put(x, "x", num(0))
	if !terms.Same(x, y) || !slices.Equal(vars, scope) || s[0] != 2 || n[0] != 1 || s[1] != -8 {
		t.Error("an argument has been changed")
	}
}
