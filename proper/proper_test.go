package proper_test

import (
	"testing"

	"voussoir/api"
	"voussoir/proper"
	"voussoir/sample"
)

func TestFlaw(t *testing.T) {
	vars := []api.Var{{Name: "x", Hi: 2}, {Name: "b", Bool: true}}
	for s, want := range map[string]api.Errno{
		"[true]":                             api.OK,
		"AG ([x = 2] -> EX [b])":             api.OK,
		"A [[b] U !EF [if b then b else b]]": api.OK,
		"[x]":                                api.ErrType,
		"[1]":                                api.ErrType,
		"EX [y]":                             api.ErrName,
		"[y] & [x]":                          api.ErrName,
		"[x] & [y]":                          api.ErrType,
		"[b] -> EG ([x] | [y])":              api.ErrType,
		"A [[b] U [x + b = 1]]":              api.ErrType,
		"E [[y = 1] U [x]]":                  api.ErrName,
		"E [[b] U [y]]":                      api.ErrName,
		"[x mod 0 = 1]":                      api.ErrRange,
		"EF [b & y]":                         api.ErrName,
		"!AG [if b then x else b]":           api.ErrType,
	} {
		if e := proper.Flaw(vars, sample.Formula(t, s)); e != want {
			t.Errorf("%s: %d; want %d", s, e, want)
		}
	}
	word := func(op int, name string) api.Form { return api.Form{Op: api.FTerm, E: api.Term{Op: op, Name: name}} }
	for i, x := range []struct {
		f    api.Form
		want api.Errno
	}{
		{api.Form{}, api.ErrKind},
		{api.Form{Op: api.FEX}, api.ErrForm},
		{api.Form{Op: api.FAnd, Kids: []api.Form{word(api.TName, "y"), {Op: 99}}}, api.ErrKind}, // what is wrong about the formula comes before what is wrong about a type
		{api.Form{Op: api.FOr, Kids: []api.Form{word(api.TName, "x"), word(api.TName, "")}}, api.ErrName},
		{word(api.TNext, "b"), api.ErrPlace},
		{word(api.TName, "b"), api.OK},
	} {
		if e := proper.Flaw(vars, x.f); e != x.want {
			t.Errorf("%d: %d; want %d", i, e, x.want)
		}
	}
	if e := proper.Flaw(nil, word(api.TName, "b")); e != api.ErrName {
		t.Error(e)
	}
}
