package prop_test

import (
	"math"
	"slices"
	"testing"

	"voussoir/api"
	"voussoir/bits"
	"voussoir/prop"
)

const none = -1 // an operator with any number of Kids has no number of its own

// arity tells for each operator how many Kids it has.
var arity = map[int]int{
	api.ETrue: 0, api.EFalse: 0, api.EVar: 0, api.ENot: 1, api.EAnd: none, api.EOr: none,
	api.EXor: none, api.EImp: 2, api.EIff: 2, api.EIte: 3,
}

var yes, no = api.Expr{Op: api.ETrue}, api.Expr{Op: api.EFalse}

func node(op int, kids ...api.Expr) api.Expr {
	return api.Expr{Op: op, Kids: kids}
}

// chain returns e below many negations.
func chain(many int, e api.Expr) api.Expr {
	for range many {
		e = node(api.ENot, e)
	}
	return e
}

// wide returns a conjunction with that many nodes, at most 1 + 64 * 65, the last of which is last.
func wide(nodes int, last api.Expr) api.Expr {
	root := node(api.EAnd)
	for rest := nodes - 1; rest > 0; {
		many := min(rest, 65)
		group := node(api.EOr, slices.Repeat([]api.Expr{yes}, many-1)...)
		root.Kids = append(root.Kids, group)
		rest -= many
	}
	at := &root.Kids[len(root.Kids)-1]
	for len(at.Kids) > 0 {
		at = &at.Kids[len(at.Kids)-1]
	}
	*at = last
	return root
}

func check(t *testing.T, name string, e api.Expr, want api.Errno) {
	t.Helper()
	if got := prop.Check(e); got != want {
		t.Errorf("Check of %s: %d; want %d", name, got, want)
	}
	if want == api.OK {
		return
	}
	all := slices.Repeat([]bool{true}, api.MaxVars)
	if prop.Eval(e, all) || prop.Eval(e, nil) || len(prop.Vars(e)) != 0 || prop.Size(e) != 0 || prop.Deep(e) != 0 || len(prop.Table(e, 1)) != 0 {
		t.Errorf("%s is invalid, but has a value, variables, a size, a depth or a table", name)
	}
}

func TestCheckOperators(t *testing.T) {
	for _, op := range []int{math.MinInt, -1, 0, 11, 12, math.MaxInt} {
		check(t, "an unknown operator", api.Expr{Op: op}, api.ErrKind)
		check(t, "an unknown operator with a Kid", node(op, yes), api.ErrKind)
	}
	for op, right := range arity {
		for many := range 5 {
			want := api.OK
			if right != none && many != right {
				want = api.ErrForm
			}
			check(t, "an operator with some Kids", node(op, slices.Repeat([]api.Expr{no}, many)...), want)
		}
		for _, many := range []int{64, 65, 100} {
			want := api.ErrForm
			if right == none && many == 64 {
				want = api.OK
			}
			check(t, "an operator with many Kids", node(op, slices.Repeat([]api.Expr{no}, many)...), want)
		}
	}
}

func TestCheckVar(t *testing.T) {
	for op, many := range arity {
		for _, v := range []int{math.MinInt, -1, 0, 1, 62, 63, 64, math.MaxInt} {
			e := node(op, slices.Repeat([]api.Expr{no}, max(many, 0))...)
			e.Var = v
			want := api.OK
			if v < 0 || v > 63 || v != 0 && op != api.EVar {
				want = api.ErrVar
			}
			check(t, "an operator with a Var", e, want)
		}
	}
}

func TestCheckDepth(t *testing.T) {
	check(t, "depth 64", chain(63, prop.Var(0)), api.OK)
	check(t, "depth 65", chain(64, prop.Var(0)), api.ErrDeep)
	check(t, "depth 65 with a fault there", chain(64, api.Expr{}), api.ErrDeep)
	check(t, "depth 64 with a fault there", chain(63, api.Expr{}), api.ErrKind)
	check(t, "depth 64 in a second Kid", node(api.EImp, no, chain(62, yes)), api.OK)
	check(t, "depth 65 in a second Kid", node(api.EImp, no, chain(63, yes)), api.ErrDeep)
	check(t, "depth 2000", chain(1999, yes), api.ErrDeep)
	if d := prop.Deep(chain(63, yes)); d != 64 {
		t.Error(d)
	}
}

func TestCheckSize(t *testing.T) {
	if s := prop.Size(wide(4096, yes)); s != 4096 {
		t.Errorf("Size %d; want 4096", s)
	}
	check(t, "4095 nodes", wide(4095, yes), api.OK)
	check(t, "4096 nodes", wide(4096, yes), api.OK)
	check(t, "4097 nodes", wide(4097, yes), api.ErrLong)
	check(t, "4098 nodes", wide(4098, yes), api.ErrLong)
	check(t, "4096 nodes, a fault in the last", wide(4096, api.Expr{}), api.ErrKind)
	check(t, "4097 nodes, an unknown last", wide(4097, api.Expr{}), api.ErrKind)
	check(t, "4097 nodes, the last with a wrong variable", wide(4097, prop.Var(64)), api.ErrVar)
	check(t, "4097 nodes, the last without a Kid", wide(4097, node(api.ENot)), api.ErrForm)
	check(t, "4098 nodes, a fault in the last", wide(4098, api.Expr{}), api.ErrLong)
}

func TestCheckOfKidsThatShareMemory(t *testing.T) {
	e := prop.Var(0)
	for range 62 {
		e = node(api.EOr, e, e)
	}
	check(t, "a doubled expression", e, api.ErrLong)
	check(t, "a doubled expression below the deepest level", chain(2, e), api.ErrDeep)
	check(t, "conjunctions of it", prop.And(prop.Not(e), e, e), api.ErrDeep)
}

func TestCheckOrder(t *testing.T) {
	everything := api.Expr{Op: 99, Var: -1, Kids: []api.Expr{{}}}
	check(t, "an unknown kind with a wrong Var", everything, api.ErrKind)
	check(t, "a wrong Var and wrong Kids", api.Expr{Op: api.ENot, Var: 1}, api.ErrVar)
	check(t, "wrong Kids with faults of their own", node(api.ENot, api.Expr{}, everything), api.ErrForm)
	check(t, "the first of two faults", node(api.EAnd, yes, prop.Var(64), api.Expr{}), api.ErrVar)
	check(t, "a fault deep in the first Kid", node(api.EAnd, node(api.EOr, no, node(api.EIff, no)), api.Expr{}), api.ErrForm)
	check(t, "a fault in the last Kid", node(api.EIte, yes, no, prop.Var(-1)), api.ErrVar)
	check(t, "the parent ahead of the Kid", api.Expr{Op: api.EXor, Var: 3, Kids: []api.Expr{{}}}, api.ErrVar)
	check(t, "the example", prop.Not(prop.Var(64)), api.ErrVar)
}

// truth answers as the chapter's list of operators does.
func truth(e api.Expr, l []bool) bool {
	var k []bool
	trues := 0
	for _, kid := range e.Kids {
		k = append(k, truth(kid, l))
		if k[len(k)-1] {
			trues++
		}
	}
	switch e.Op {
	case api.EVar:
		return len(l) > e.Var && l[e.Var]
	case api.ENot:
		return trues == 0
	case api.EAnd:
		return !slices.Contains(k, false)
	case api.EOr:
		return slices.Contains(k, true)
	case api.EXor:
		return trues&1 != 0
	case api.EImp:
		return !(k[0] && !k[1])
	case api.EIff:
		return trues != 1
	case api.EIte:
		return k[0] && k[1] || !k[0] && k[2]
	}
	return e.Op == api.ETrue
}

// some makes valid expressions over the variables 0 to 4, one after the other.
type some struct{ seed uint32 }

func (s *some) number(below int) int {
	s.seed = s.seed*1664525 + 1013904223
	return int(s.seed>>16) % below
}

func (s *some) expr(depth int) api.Expr {
	op := 1 + s.number(10)
	if depth == 0 {
		op = 1 + s.number(3)
	}
	e := api.Expr{Op: op}
	if op == api.EVar {
		e.Var = s.number(5)
	}
	many := arity[op]
	if many == none {
		many = s.number(5)
	}
	for range many {
		e.Kids = append(e.Kids, s.expr(depth-1))
	}
	return e
}

func TestEvalOfEachOperator(t *testing.T) {
	rows := map[int]string{ // the values for the Kids 000, 100, 010, 110, 001, ..
		api.EAnd: "00000001", api.EOr: "01111111", api.EXor: "01101001", api.EIte: "00011011",
	}
	for op, want := range rows {
		if s := bits.Text(prop.Table(node(op, prop.Var(0), prop.Var(1), prop.Var(2)), 3)); s != want {
			t.Errorf("operator %d: %s; want %s", op, s, want)
		}
	}
	for op, want := range map[int]string{api.EImp: "1011", api.EIff: "1001", api.EAnd: "0001", api.EOr: "0111", api.EXor: "0110"} {
		if s := bits.Text(prop.Table(node(op, prop.Var(0), prop.Var(1)), 2)); s != want {
			t.Errorf("operator %d: %s; want %s", op, s, want)
		}
	}
	if prop.Eval(no, nil) || !prop.Eval(yes, nil) || !prop.Eval(node(api.EAnd), nil) || prop.Eval(node(api.EOr), nil) || prop.Eval(node(api.EXor), nil) {
		t.Error("operators without Kids")
	}
	if !prop.Eval(node(api.ENot, no), nil) || prop.Eval(node(api.ENot, yes), nil) {
		t.Error("ENot")
	}
}

func TestEvalOfMissingElements(t *testing.T) {
	for v := range api.MaxVars {
		l := make([]bool, v+1)
		l[v] = true
		if !prop.Eval(prop.Var(v), l) || prop.Eval(prop.Var(v), l[:v]) || prop.Eval(prop.Var(v), nil) || !prop.Eval(prop.Not(prop.Var(v)), l[:v]) {
			t.Errorf("variable %d", v)
		}
		l[v] = false
		if prop.Eval(prop.Var(v), append(l, true)) {
			t.Errorf("variable %d has the value of another", v)
		}
	}
}

func TestEvalVarsAndTable(t *testing.T) {
	s := &some{1}
	for range 400 {
		e := s.expr(s.number(4))
		if prop.Check(e) != api.OK {
			t.Fatalf("%v: %d", e, prop.Check(e))
		}
		for many := range 7 {
			table := prop.Table(e, many)
			if len(table) != 1<<many {
				t.Fatalf("Table(%v, %d) has length %d", e, many, len(table))
			}
			for i := range table {
				l := bits.Of(uint64(i), many)
				if table[i] != truth(e, l) || prop.Eval(e, l) != table[i] {
					t.Fatalf("%v at %v: Table %v, Eval %v", e, l, table[i], prop.Eval(e, l))
				}
			}
		}
		vars := prop.Vars(e)
		if !slices.Equal(vars, occurring(e)) {
			t.Fatalf("Vars(%v) = %v", e, vars)
		}
		l := bits.Of(uint64(s.number(32)), 5)
		for v := range 5 {
			m := slices.Clone(l)
			m[v] = !m[v]
			if !slices.Contains(vars, v) && prop.Eval(e, l) != prop.Eval(e, m) {
				t.Fatalf("%v depends on %d", e, v)
			}
		}
	}
}

// occurring returns the variables of e in increasing order.
func occurring(e api.Expr) []int {
	var l []int
	for v := range api.MaxVars {
		if has(e, v) {
			l = append(l, v)
		}
	}
	return l
}

func has(e api.Expr, v int) bool {
	if e.Op == api.EVar {
		return e.Var == v
	}
	return slices.ContainsFunc(e.Kids, func(kid api.Expr) bool { return has(kid, v) })
}

func TestVars(t *testing.T) {
	e := prop.Or(prop.Var(63), prop.Var(2), prop.Not(prop.Var(63)), prop.Var(0))
	if l := prop.Vars(e); !slices.Equal(l, []int{0, 2, 63}) {
		t.Error(l)
	}
	if len(prop.Vars(yes)) != 0 || len(prop.Vars(node(api.EXor))) != 0 {
		t.Error("no variables")
	}
}

func TestTableEdges(t *testing.T) {
	for _, many := range []int{math.MinInt, -1, 13, 64, math.MaxInt} {
		if l := prop.Table(yes, many); len(l) != 0 {
			t.Errorf("Table of %d variables has length %d", many, len(l))
		}
	}
	if l := prop.Table(yes, 0); !slices.Equal(l, []bool{true}) {
		t.Error(l)
	}
	for i, value := range prop.Table(prop.Var(11), 12) {
		if value != (i >= 2048) {
			t.Errorf("element %d of the largest table is %v", i, value)
		}
	}
	if l := prop.Table(prop.Var(12), 12); len(l) != 4096 || slices.Contains(l, true) {
		t.Error("a variable beyond the assignments is not false")
	}
}

func TestSizeAndDeep(t *testing.T) {
	cases := []struct {
		e          api.Expr
		size, deep int
	}{
		{yes, 1, 1},
		{node(api.EAnd), 1, 1},
		{prop.Not(prop.Var(3)), 2, 2},
		{node(api.EIte, chain(3, no), yes, chain(1, no)), 8, 5},
		{node(api.EIte, no, yes, chain(4, no)), 8, 6},
		{node(api.EXor, slices.Repeat([]api.Expr{prop.Var(1)}, 64)...), 65, 2},
		{chain(63, no), 64, 64},
	}
	for i, c := range cases {
		if s, d := prop.Size(c.e), prop.Deep(c.e); s != c.size || d != c.deep {
			t.Errorf("case %d: %d, %d; want %d, %d", i, s, d, c.size, c.deep)
		}
	}
}

func TestSame(t *testing.T) {
	different := []api.Expr{
		{}, yes, no, {Op: 99}, {Op: api.EVar}, {Op: api.EVar, Var: 1}, {Op: api.EVar, Var: -1}, {Op: api.ETrue, Var: 1},
		node(api.ENot, yes), node(api.ENot, no), node(api.ENot), node(api.EAnd, yes), node(api.EAnd, yes, no),
		node(api.EAnd, no, yes), node(api.EAnd, yes, no, no), node(api.EOr, yes, no), node(api.EAnd, yes, node(api.ENot, no)),
		node(api.EAnd, yes, node(api.ENot, yes)), node(99, api.Expr{}), node(99, node(99)), chain(70, yes), chain(71, yes), chain(70, no),
	}
	for i, a := range different {
		for j, b := range different {
			if prop.Same(a, b) != (i == j) {
				t.Errorf("Same(%v, %v) = %v", a, b, i != j)
			}
		}
	}
	if !prop.Same(api.Expr{Op: api.EOr, Kids: []api.Expr{}}, api.Expr{Op: api.EOr}) {
		t.Error("no Kids are not the same as an empty list of Kids")
	}
	if !prop.Same(chain(1<<16-1, yes), chain(1<<16-1, yes)) {
		t.Error("deep expressions")
	}
}

func TestConstructors(t *testing.T) {
	a, b := prop.Var(7), prop.Var(-9)
	if a.Op != api.EVar || a.Var != 7 || len(a.Kids) != 0 || b.Var != -9 || prop.Var(64).Var != 64 {
		t.Error(a, b)
	}
	for name, got := range map[string][2]api.Expr{
		"Not":            {prop.Not(b), node(api.ENot, b)},
		"Not of nothing": {prop.Not(api.Expr{}), node(api.ENot, api.Expr{})},
		"And":            {prop.And(b, a, b), node(api.EAnd, b, a, b)},
		"And of nothing": {prop.And(), node(api.EAnd)},
		"And of 65":      {prop.And(make([]api.Expr, 65)...), node(api.EAnd, make([]api.Expr, 65)...)},
		"Or":             {prop.Or(a, api.Expr{}), node(api.EOr, a, api.Expr{})},
		"Or of nothing":  {prop.Or(), node(api.EOr)},
		"Or of 5000":     {prop.Or(make([]api.Expr, 5000)...), node(api.EOr, make([]api.Expr, 5000)...)},
		"Not of depth":   {prop.Not(chain(80, prop.And(a, b))), chain(81, prop.And(a, b))},
		"And of size":    {prop.And(wide(4100, a), wide(3000, b)), node(api.EAnd, wide(4100, a), wide(3000, b))},
	} {
		if !prop.Same(got[0], got[1]) {
			t.Errorf("%s is another expression", name)
		}
	}
}

func TestOperandsStayApart(t *testing.T) {
	inner := []api.Expr{prop.Var(1), prop.Var(2)}
	l := []api.Expr{chain(2, node(api.EXor, inner...)), prop.Var(3), prop.Var(4)}[:2]
	and, or, not := prop.And(l...), prop.Or(l[0], l[0]), prop.Not(l[0])
	inner[0], l[1] = no, no
	xor := chain(2, node(api.EXor, prop.Var(1), prop.Var(2)))
	if !prop.Same(and, node(api.EAnd, xor, prop.Var(3))) || !prop.Same(or, node(api.EOr, xor, xor)) || !prop.Same(not, node(api.ENot, xor)) {
		t.Error("a later change of an operand is seen")
	}
	or.Kids[0].Kids[0].Kids[0].Kids[0] = yes
	and.Kids[0].Kids[0].Kids[0].Kids[1] = yes
	and.Kids = append(and.Kids, yes)
	if !prop.Same(or.Kids[1], xor) || !prop.Same(inner[1], prop.Var(2)) || !prop.Same(l[:3][2], prop.Var(4)) {
		t.Error("a change of a result is seen elsewhere")
	}
}

func TestDerived(t *testing.T) {
	s := &some{7}
	for range 200 {
		a, b, c := s.expr(2), s.expr(2), s.expr(2)
		x, y, z := prop.Table(a, 5), prop.Table(b, 5), prop.Table(c, 5)
		not, and, or := prop.Table(prop.Not(a), 5), prop.Table(prop.And(a, b, c), 5), prop.Table(prop.Or(a, b, c), 5)
		imp, iff := prop.Table(node(api.EImp, a, b), 5), prop.Table(node(api.EIff, a, b), 5)
		notXor := prop.Table(prop.Not(node(api.EXor, a, b)), 5)
		for i := range 32 {
			if not[i] != !x[i] || and[i] != (x[i] && y[i] && z[i]) || or[i] != (x[i] || y[i] || z[i]) {
				t.Fatalf("%v, %v, %v under assignment %d", a, b, c, i)
			}
		}
		if !slices.Equal(imp, prop.Table(prop.Or(prop.Not(a), b), 5)) || !slices.Equal(iff, notXor) {
			t.Fatalf("%v, %v: EImp or EIff", a, b)
		}
		if !slices.Equal(prop.Table(node(api.EIte, a, b, b), 5), y) {
			t.Fatalf("%v, %v: EIte", a, b)
		}
	}
}

func TestLimitsAreMetOrNot(t *testing.T) {
	deep := chain(63, yes)
	for _, e := range []api.Expr{prop.Not(deep), prop.And(deep), prop.Or(yes, deep)} {
		if prop.Check(e) != api.ErrDeep {
			t.Error("depth 65", prop.Check(e))
		}
	}
	half := wide(2048, yes)
	if e := prop.Check(prop.And(half, wide(2047, yes))); e != api.OK {
		t.Error("4096 nodes", e)
	}
	if e := prop.Check(prop.And(half, half)); e != api.ErrLong {
		t.Error("4097 nodes", e)
	}
}
