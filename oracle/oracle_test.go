package oracle_test

import (
	"slices"
	"testing"

	"voussoir/api"
	"voussoir/graph"
	"voussoir/oracle"
	"voussoir/sample"
)

// of returns the graph of a model.
func of(t *testing.T, m api.Module) graph.Graph {
	t.Helper()
	g, e := graph.Of(m)
	if e != api.OK {
		t.Fatal(e)
	}
	return g
}

// set returns the states whose digits are 1.
func set(s string) (l []bool) {
	for _, c := range s {
		l = append(l, c == '1')
	}
	return l
}

// digits is the inverse of set.
func digits(l []bool) (s string) {
	for _, yes := range l {
		if yes {
			s += "1"
		} else {
			s += "0"
		}
	}
	return s
}

func TestExamples(t *testing.T) {
	for _, x := range []struct {
		model string
		holds map[string]string // formulas with the states in which they hold
	}{
		{"var x : bool; next x := !x; fair x;", map[string]string{
			"EG [true]": "11", "EG [x]": "00", "AF [x]": "11",
		}},
		{"var x : bool; init !x; next x := !x;", map[string]string{"EX [x]": "10", "AG [x]": "00", "EF [!x]": "11"}},
		{"var x : bool;", map[string]string{"AF [x]": "01", "EG [!x]": "10"}},
		{"var x : bool; fair x;", map[string]string{"AF [x]": "11", "EG [!x]": "00", "EG [x]": "01"}},
		{"var x : 0 .. 2; next x := x + 1;", map[string]string{
			"EX [true]": "000", "AX [false]": "111", "EF [true]": "000", "AG [false]": "111", "E [[true] U [true]]": "000", "A [[false] U [false]]": "111", "[x = 1]": "010",
		}},
		{"var x : 0 .. 2; next x := if x = 2 then 0 else x + 1;", map[string]string{
			"EF [x = 1]": "111", "AG [x = 1]": "000", "EX [x = 0]": "001", "A [[x < 2] U [x = 2]]": "111",
		}},
		{"var x : 0 .. 2; next x := if x = 2 then 0 else x + 1; fair x = 5;", map[string]string{"AG [x = 1]": "111", "EG [x = x]": "000"}},
		// 0 stays or goes on to 1, which stays or ends in 2, from which no path goes on; a fair path has to stay in 1.
		{"var x : 0 .. 2; trans x = next(x) & x != 2 | next(x) = x + 1; fair x = 1;", map[string]string{
			"EX [x = 1]": "110", "EX [x = 0]": "100", "EX [x = 2]": "000", "AX [x = 1]": "011", "EG [true]": "110", "EF [x = 2]": "000", "AF [x = 1]": "111",
			"EG [x = 0]": "000", "AG [x <= 1]": "111", "E [[x = 0] U [x = 1]]": "110", "A [[x = 0] U [x = 1]]": "111", "A [[x = 1] U [x = 0]]": "101",
			"!EG [true]": "001", "EX [x = 1] & [x = 1]": "010", "EX [x = 1] -> [x = 1]": "011", "[x = 2] | AX [x = 1]": "011",
		}},
		// Two constraints have to be met again and again, but not in the same state.
		{"var x : 0 .. 3; trans x = 0 | x = 1 & next(x) = 2 | x = 2 & (next(x) = 1 | next(x) = 3) | x = 3 & next(x) = 3; fair x = 1; fair x = 2 | x = 3;", map[string]string{
			"EG [true]": "1110", "EG [x = 1 | x = 2]": "0110", "EG [x != 2]": "0000", "EX [x = 3]": "0000", "AF [x = 1 & false]": "0001", "AG [x != 0]": "0111",
		}},
		{"invar false;", map[string]string{"EX [true]": "", "A [[true] U [true]]": ""}},
		{"", map[string]string{"EG [true]": "1", "AX [false]": "0"}},
	} {
		m := sample.Model(t, x.model)
		for s, want := range x.holds {
			if l, e := oracle.Sat(of(t, m), m, sample.Formula(t, s)); digits(l) != want || e != api.OK {
				t.Errorf("%s: %s: %s, %d; want %s", x.model, s, digits(l), e, want)
			}
		}
	}
}

// Elements that are missing are false, those that are too many don't count, and arguments stay as they are.
func TestSets(t *testing.T) {
	g := of(t, sample.Model(t, "var x : 0 .. 3; trans next(x) = x | next(x) = x + 1;"))
	p, q := set("1101"), set("0010")
	for i, x := range []struct {
		got  []bool
		want string
	}{
		{oracle.EX(g, set("01")), "1100"}, {oracle.EX(g, set("0100111")), "1100"}, {oracle.EX(g, nil), "0000"},
		{oracle.EU(g, p, q), "1110"}, {oracle.EU(g, nil, q), "0010"}, {oracle.EU(g, set("0"), set("001011")), "0010"}, {oracle.EU(g, set("01"), set("001")), "0110"}, {oracle.EU(g, p, nil), "0000"},
		{oracle.EG(g, p), "1101"}, {oracle.EG(g, nil), "0000"}, {oracle.EG(g, set("00011")), "0001"},
		{oracle.Fair(g, p), "1101"}, {oracle.Fair(g, set("1")), "1000"}, {oracle.Fair(g, set("11111")), "1111"}, {oracle.Fair(g, nil), "0000"},
	} {
		if digits(x.got) != x.want {
			t.Errorf("%d: %s; want %s", i, digits(x.got), x.want)
		}
	}
	if digits(p) != "1101" || digits(q) != "0010" {
		t.Error(p, q)
	}
	for _, l := range [][]bool{oracle.EU(g, p, q), oracle.EG(g, p), oracle.Fair(g, p)} {
		l[0] = !l[0]
	}
	if digits(p) != "1101" || digits(q) != "0010" {
		t.Error("an answer is memory of its argument")
	}
	if l := oracle.EX(graph.Graph{}, p); len(l) != 0 {
		t.Error(l)
	}
}

func TestErrors(t *testing.T) {
	m := sample.Model(t, "var x : 0 .. 2; var b : bool; def d := b;")
	g := of(t, m)
	for s, want := range map[string]api.Errno{
		"EX [x]":                   api.ErrType,
		"EX [d]":                   api.ErrName,
		"[y] & [x]":                api.ErrName,
		"[x] & [y]":                api.ErrType,
		"[b] -> EG ([x] | [y])":    api.ErrType,
		"A [[b] U [x + b = 1]]":    api.ErrType,
		"E [[y = 1] U [x]]":        api.ErrName,
		"[x mod 0 = 1]":            api.ErrRange,
		"EF [b & y]":               api.ErrName,
		"!AG [if b then x else b]": api.ErrType,
	} {
		if l, e := oracle.Sat(g, m, sample.Formula(t, s)); len(l) != 0 || e != want {
			t.Errorf("%s: %v, %d; want %d", s, l, e, want)
		}
	}
	word := func(op int, name string) api.Form { return api.Form{Op: api.FTerm, E: api.Term{Op: op, Name: name}} }
	deep := word(api.TName, "b")
	for range api.MaxDeep {
		deep = api.Form{Op: api.FEX, Kids: []api.Form{deep}}
	}
	for i, x := range []struct {
		f    api.Form
		want api.Errno
	}{
		{api.Form{}, api.ErrKind},
		{api.Form{Op: 14}, api.ErrKind},
		{api.Form{Op: api.FEX}, api.ErrForm},
		{api.Form{Op: api.FEX, Kids: []api.Form{word(api.TName, "y"), deep}}, api.ErrForm},
		{api.Form{Op: api.FAnd, Kids: []api.Form{word(api.TName, "y"), {Op: 99}}}, api.ErrKind},
		{word(api.TNext, "b"), api.ErrPlace},
		{word(api.TName, ""), api.ErrName},
		{deep, api.ErrDeep},
	} {
		if l, e := oracle.Sat(g, m, x.f); len(l) != 0 || e != x.want {
			t.Errorf("%d: %v, %d; want %d", i, l, e, x.want)
		}
	}
	if l, e := oracle.Sat(g, m, deep.Kids[0]); len(l) != 6 || e != api.OK {
		t.Error(l, e)
	}
}

// A path through all states that a model may have.
func TestManyStates(t *testing.T) {
	m := sample.Model(t, "var a : 0 .. 63; var b : 0 .. 63; next a := if b = 63 then (a + 1) mod 64 else a; next b := (b + 1) mod 64; fair a = 5 & b = 5;")
	g := of(t, m)
	for s, many := range map[string]int{"EF [a = 63 & b = 0]": 4096, "EG [a + b != 126]": 0, "AF [a = 9]": 4096, "EX [a = b]": 64, "A [[a < 63] U [a = 63 & b = 0]]": 63*64 + 1, "A [[a < 63] U [a = 63 & b = 1]]": 1, "E [[a != 9] U [a = 9 & b = 0]]": 63*64 + 1, "AG EF [a = 0]": 4096} {
		l, e := oracle.Sat(g, m, sample.Formula(t, s))
		found := 0
		for _, yes := range l {
			if yes {
				found++
			}
		}
		if found != many || e != api.OK {
			t.Errorf("%s: %d, %d; want %d", s, found, e, many)
		}
	}
	if in := slices.Repeat([]bool{true}, 4095); slices.Contains(oracle.Fair(g, in), true) {
		t.Error("a cycle with a gap")
	}
}
