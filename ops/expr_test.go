package ops_test

import (
	"math/rand"
	"testing"

	"voussoir/api"
	"voussoir/ops"
	"voussoir/prop"
	"voussoir/trial"
)

func expr(op int, kids ...api.Expr) api.Expr { return api.Expr{Op: op, Kids: kids} }

// random returns a valid expression over that many variables, of that depth or less.
func random(r *rand.Rand, vars, depth int) api.Expr {
	op := api.ETrue + r.Intn(10)
	least, most := 2, 2
	switch op {
	case api.ETrue, api.EFalse, api.EVar:
		least, most = 0, 0
	case api.ENot:
		least, most = 1, 1
	case api.EAnd, api.EOr, api.EXor:
		least, most = 0, 4
	case api.EIte:
		least, most = 3, 3
	}
	if depth == 1 && most > 0 || op == api.EVar {
		if vars == 0 {
			return expr(api.EFalse)
		}
		return prop.Var(r.Intn(vars))
	}
	x := expr(op)
	for range least + r.Intn(most-least+1) {
		x.Kids = append(x.Kids, random(r, vars, depth-1))
	}
	return x
}

func TestOf(t *testing.T) {
	r := rand.New(rand.NewSource(1))
	for range 3000 {
		vars := r.Intn(6)
		w := trial.New(t, r, vars, trial.Enough(vars, 10))
		x := random(r, vars, 1+r.Intn(6))
		values := uint64(0)
		for i, yes := range prop.Table(x, vars) {
			if yes {
				values |= 1 << i
			}
		}
		w.Disturb()
		w.Has("Of", values)(ops.Of(w.M, x))
	}
}

func TestOfEachOperator(t *testing.T) {
	w := trial.New(t, nil, 3, trial.Enough(3, 9))
	a, b, c := prop.Var(0), prop.Var(1), prop.Var(2)
	const A, B, C = 0b10101010, 0b11001100, 0b11110000
	for i, x := range []struct {
		e    api.Expr
		want uint64
	}{
		{expr(api.ETrue), 0xff}, {expr(api.EFalse), 0}, {b, B}, {prop.Not(c), ^uint64(C)},
		{prop.And(), 0xff}, {prop.And(b), B}, {prop.And(a, b, c), A & B & C},
		{prop.Or(), 0}, {prop.Or(b), B}, {prop.Or(a, b, c), A | B | C},
		{expr(api.EXor), 0}, {expr(api.EXor, a), A}, {expr(api.EXor, a, b, c), A ^ B ^ C}, {expr(api.EXor, a, b, a), B},
		{expr(api.EImp, a, b), ^uint64(A) | B}, {expr(api.EIff, a, b), ^uint64(A ^ B)}, {expr(api.EIte, a, b, c), A&B | C&^A},
		{expr(api.EIte, c, b, a), C&B | A&^C},
	} {
		w.Has(string(rune('a'+i)), x.want)(ops.Of(w.M, x.e))
	}
}

func TestOfRefuses(t *testing.T) {
	w := trial.New(t, nil, 2, 100)
	deep := prop.Var(1)
	for range api.MaxDeep {
		deep = prop.Not(deep)
	}
	for _, x := range []struct {
		e    api.Expr
		want api.Errno
	}{
		{api.Expr{}, api.ErrKind},
		{expr(11), api.ErrKind},
		{prop.Var(-1), api.ErrVar},
		{prop.Var(64), api.ErrVar},
		{prop.Var(2), api.ErrVar},
		{prop.Var(63), api.ErrVar},
		{prop.Or(prop.Var(0), prop.And(prop.Var(1), prop.Var(2))), api.ErrVar},
		{expr(api.ENot), api.ErrForm},
		{expr(api.EIff, prop.Var(0)), api.ErrForm},
		{prop.And(prop.Var(2), expr(api.ENot)), api.ErrForm},
		{prop.And(prop.Var(2), expr(0)), api.ErrKind},
		{prop.Not(deep), api.ErrDeep},
		{prop.And(make([]api.Expr, 65)...), api.ErrForm},
	} {
		w.Fails("Of", x.want)(ops.Of(w.M, x.e))
	}
	w.Fails("Of", api.ErrDeep)(ops.Of(w.M, deep))
	w.Has("Of", 0b0011)(ops.Of(w.M, deep.Kids[0]))
	none := trial.New(t, nil, 0, 1)
	none.Fails("Of", api.ErrVar)(ops.Of(none.M, prop.Var(0)))
	none.Has("Of", 1)(ops.Of(none.M, prop.And()))
	one := trial.New(t, nil, 2, 1)
	one.Fails("Of", api.ErrRoom)(ops.Of(one.M, prop.And(prop.Var(0), prop.Var(1))))
	one.Fails("Of", api.ErrVar)(ops.Of(one.M, prop.And(prop.Var(0), prop.Var(1), prop.Var(2))))
	one.Has("Of", 0b1010)(ops.Of(one.M, prop.Var(0)))
}
