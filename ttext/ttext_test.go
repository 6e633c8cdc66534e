package ttext_test

import (
	"math"
	"slices"
	"strings"
	"testing"

	"voussoir/api"
	"voussoir/lexi"
	"voussoir/terms"
	"voussoir/ttext"
)

var yes, no = api.Term{Op: api.TBool, N: 1}, api.Term{Op: api.TBool}
var a, b, c, d, e = name("a"), name("b"), name("c"), name("d"), name("e")

func op(k int, kids ...api.Term) api.Term { return api.Term{Op: k, Kids: kids} }
func num(n int) api.Term                  { return api.Term{Op: api.TNum, N: n} }
func name(s string) api.Term              { return api.Term{Op: api.TName, Name: s} }
func next(s string) api.Term              { return api.Term{Op: api.TNext, Name: s} }
func branch(kids ...api.Term) api.Term    { return op(api.TIf, kids...) }

// parsed checks that s stands for x.
func parsed(t *testing.T, s string, x api.Term) {
	t.Helper()
	if got, at, err := ttext.Parse(s); !terms.Same(got, x) || at != len(s) || err != api.OK {
		t.Errorf("Parse(%q): %v, %d, %d; want %v", s, got, at, err, x)
	}
}

// shown checks that s is what Show makes of x, and that s stands for x.
func shown(t *testing.T, x api.Term, s string) {
	t.Helper()
	if got, err := ttext.Show(x); got != s || err != api.OK {
		t.Errorf("Show: %q, %d; want %q", got, err, s)
	}
	parsed(t, s, x)
}

// refused checks that Parse refuses s.
func refused(t *testing.T, s string, at int, err api.Errno) {
	t.Helper()
	if got, place, fault := ttext.Parse(s); !terms.Same(got, api.Term{}) || place != at || fault != err {
		t.Errorf("Parse(%q): %v, %d, %d; want %d, %d", s[:min(len(s), 80)], got, place, fault, at, err)
	}
}

func TestTheExamples(t *testing.T) {
	shown(t, op(api.TImp, op(api.TLe, op(api.TAdd, a, op(api.TMul, num(2), b)), num(-3)), op(api.TAnd, op(api.TNot, c), next("d"))), "a + 2 * b <= -3 -> !c & next(d)")
	refused(t, "a + ;", 4, api.ErrSyntax)
	shown(t, op(api.TAdd, branch(a, num(1), num(2)), num(3)), "(if a then 1 else 2) + 3")
	shown(t, op(api.TAdd, num(3), branch(a, num(1), num(2))), "3 + if a then 1 else 2")
}

func TestLeaves(t *testing.T) {
	shown(t, num(0), "0")
	shown(t, num(255), "255")
	shown(t, num(-1), "-1")
	shown(t, num(-255), "-255")
	shown(t, yes, "true")
	shown(t, no, "false")
	shown(t, a, "a")
	shown(t, name("Untrue_4"), "Untrue_4")
	shown(t, name(strings.Repeat("z", 24)), strings.Repeat("z", 24))
	shown(t, next("a"), "next(a)")
	parsed(t, "-0", num(0))
	parsed(t, "- 7", num(-7))
	parsed(t, " next ( a )\n", next("a"))
	parsed(t, "(((a)))", a)
	parsed(t, "-- a remark\n a -- and another", a)
}

func TestEveryOperator(t *testing.T) {
	for k, s := range map[int]string{
		api.TImp: "->", api.TIff: "<->", api.TEq: "=", api.TNe: "!=", api.TLt: "<", api.TLe: "<=",
		api.TAdd: "+", api.TSub: "-", api.TMul: "*", api.TMod: "mod", api.TAnd: "&", api.TOr: "|",
	} {
		shown(t, op(k, a, b), "a "+s+" b")
		parsed(t, "(a) "+s+"\t( b)", op(k, a, b))
		shown(t, op(k, num(-1), next("b")), "-1 "+s+" next(b)")
	}
	shown(t, op(api.TNot, a), "!a")
	shown(t, branch(a, b, c), "if a then b else c")
	shown(t, op(api.TAnd, a, b, c, d), "a & b & c & d")
	shown(t, op(api.TOr, slices.Repeat([]api.Term{yes}, 64)...), "true"+strings.Repeat(" | true", 63))
	parsed(t, "a&b|!c&d->e", op(api.TImp, op(api.TOr, op(api.TAnd, a, b), op(api.TAnd, op(api.TNot, c), d)), e))
	parsed(t, "a<-1", op(api.TLt, a, num(-1)))
	parsed(t, "a-1", op(api.TSub, a, num(1)))
	parsed(t, "a - -1", op(api.TSub, a, num(-1)))
	parsed(t, "a--1", a)
	refused(t, "a<-b", 3, api.ErrSyntax)
}

func TestHowOperatorsAssociate(t *testing.T) {
	shown(t, op(api.TSub, op(api.TAdd, op(api.TSub, a, b), c), d), "a - b + c - d")
	shown(t, op(api.TSub, a, op(api.TAdd, b, op(api.TSub, c, d))), "a - (b + (c - d))")
	shown(t, op(api.TMod, op(api.TMul, op(api.TMod, a, b), c), d), "a mod b * c mod d")
	shown(t, op(api.TMul, a, op(api.TMod, b, op(api.TMul, c, d))), "a * (b mod (c * d))")
	shown(t, op(api.TImp, a, op(api.TImp, b, op(api.TImp, c, d))), "a -> b -> c -> d")
	shown(t, op(api.TImp, op(api.TImp, op(api.TImp, a, b), c), d), "((a -> b) -> c) -> d")
	shown(t, op(api.TIff, op(api.TIff, a, b), op(api.TIff, c, d)), "(a <-> b) <-> (c <-> d)")
	shown(t, op(api.TAnd, op(api.TAnd, a, b), op(api.TAnd, c, d)), "(a & b) & (c & d)")
	shown(t, op(api.TOr, a, op(api.TOr, b, c), d), "a | (b | c) | d")
	shown(t, op(api.TEq, op(api.TNe, a, b), op(api.TLt, c, d)), "(a != b) = (c < d)")
	refused(t, "a <-> b <-> c", 8, api.ErrSyntax)
	refused(t, "a = b != c", 6, api.ErrSyntax)
	refused(t, "a < b <= c", 6, api.ErrSyntax)
	refused(t, "(a <-> b <-> c)", 9, api.ErrSyntax)
}

func TestParentheses(t *testing.T) {
	shown(t, op(api.TNot, op(api.TNot, op(api.TEq, a, b))), "!!a = b")
	shown(t, op(api.TEq, op(api.TNot, a), b), "(!a) = b")
	shown(t, op(api.TEq, a, op(api.TNot, b)), "a = (!b)")
	shown(t, op(api.TAdd, op(api.TNot, a), op(api.TAnd, b, c)), "(!a) + (b & c)")
	shown(t, op(api.TNot, op(api.TAnd, a, b)), "!(a & b)")
	shown(t, op(api.TNot, num(-3)), "!-3")
	shown(t, op(api.TSub, num(-3), num(-4)), "-3 - -4")
	shown(t, op(api.TOr, op(api.TAnd, a, b), op(api.TImp, c, d)), "a & b | (c -> d)")
	shown(t, op(api.TAnd, op(api.TOr, a, b), op(api.TIff, c, d)), "(a | b) & (c <-> d)")
	shown(t, op(api.TImp, op(api.TIff, a, b), op(api.TIff, c, d)), "(a <-> b) -> (c <-> d)")
	shown(t, op(api.TIff, op(api.TImp, a, b), op(api.TImp, c, d)), "a -> b <-> c -> d")
	shown(t, op(api.TMul, op(api.TAdd, a, b), op(api.TSub, c, d)), "(a + b) * (c - d)")
	shown(t, op(api.TAdd, op(api.TMul, a, b), op(api.TMod, c, d)), "a * b + c mod d")
	shown(t, branch(op(api.TIff, a, b), op(api.TImp, c, d), op(api.TIff, d, e)), "if a <-> b then c -> d else d <-> e")
}

func TestIf(t *testing.T) {
	x := branch(a, b, c)
	shown(t, branch(x, x, x), "if if a then b else c then if a then b else c else if a then b else c")
	shown(t, op(api.TNot, x), "!if a then b else c")
	shown(t, op(api.TAnd, x, x), "(if a then b else c) & if a then b else c")
	shown(t, op(api.TAnd, op(api.TNot, x), d), "!(if a then b else c) & d")
	shown(t, op(api.TLt, op(api.TAdd, d, x), e), "d + (if a then b else c) < e")
	shown(t, op(api.TMul, op(api.TAdd, d, x), e), "(d + if a then b else c) * e")
	shown(t, branch(op(api.TEq, d, x), op(api.TMod, d, x), op(api.TImp, d, x)), "if d = if a then b else c then d mod if a then b else c else d -> if a then b else c")
	shown(t, op(api.TIff, branch(a, b, op(api.TIff, c, d)), e), "(if a then b else c <-> d) <-> e")
	shown(t, op(api.TSub, branch(a, b, branch(c, d, e)), a), "(if a then b else if c then d else e) - a")
	shown(t, op(api.TOr, a, op(api.TAnd, b, x)), "a | b & if a then b else c")
	shown(t, op(api.TOr, op(api.TAnd, b, x), a), "b & (if a then b else c) | a")
	shown(t, branch(a, b, op(api.TAdd, c, d)), "if a then b else c + d")
	parsed(t, "if a then b else c <-> d <-> e", op(api.TIff, branch(a, b, op(api.TIff, c, d)), e))
	parsed(t, "if a then b else c = d = e", op(api.TEq, branch(a, b, op(api.TEq, c, d)), e))
	refused(t, "if a then b", 11, api.ErrSyntax)
	refused(t, "if a then b then c", 12, api.ErrSyntax)
	refused(t, "if a else b", 5, api.ErrSyntax)
	refused(t, "if then b else c", 3, api.ErrSyntax)
	refused(t, "if a then else c", 10, api.ErrSyntax)
	refused(t, "if a then b else", 16, api.ErrSyntax)
	refused(t, "a then b", 2, api.ErrSyntax)
}

func TestSyntaxErrors(t *testing.T) {
	for s, at := range map[string]int{
		"": 0, "  ": 2, " -- a": 5, "a b": 2, "(a": 2, "(a b)": 3, "()": 1, ")": 0, "a)": 1, "next a": 5, "next(": 5, "next(1)": 5, "next(a": 6, "next(a b)": 7, "next(next(a))": 5, "next": 4, "next((a))": 5,
		"- a": 2, "--1": 3, "- -1": 2, "-": 1, "-(1)": 1, "a = b = c": 6, "a + !b": 4, "a = !b": 4, "+ a": 0, "a +": 3, "a *": 3, "a mod": 5, "a mod mod": 6, "a &": 3, "a & & b": 4, "a |": 3, "!": 1, "! ": 2, "!;": 1, "a ->": 4, "a -> -> b": 5, "a <->": 5, "a <-> ->": 6, "a <": 3, "a <= = b": 5,
		"true false": 5, "a := b": 2, "a : b": 2, "[a]": 0, "EX a": 0, "a U b": 2, "a..b": 1, "a, b": 1, "bool": 0, "then": 0, "1 2": 2, "a 1": 2, "a (b)": 2, "a !b": 2, "a if": 2, "  a ;": 4,
	} {
		refused(t, s, at, api.ErrSyntax)
	}
	refused(t, "a + 01", 4, api.ErrToken)
	refused(t, "a + 256 ;", 4, api.ErrRange)
	refused(t, "; a > 1", 4, api.ErrToken)
	refused(t, "a + "+strings.Repeat("b", 25), 4, api.ErrLong)
	refused(t, strings.Repeat(";", api.MaxText+1), 0, api.ErrLong)
	refused(t, strings.Repeat(" ", api.MaxText), api.MaxText, api.ErrSyntax)
	refused(t, strings.Repeat(";", api.MaxText), 0, api.ErrSyntax)
	parsed(t, "a"+strings.Repeat(" ", api.MaxText-1), a)
	parsed(t, strings.Repeat(" ", api.MaxText-1)+"a", a)
	refused(t, strings.Repeat(" ", api.MaxText)+"a", 0, api.ErrLong)
}

func TestTermsThatAreNotValid(t *testing.T) {
	row := func(k int) string { return "true" + strings.Repeat(" & true", k-1) }
	parsed(t, row(64), op(api.TAnd, slices.Repeat([]api.Term{yes}, 64)...))
	refused(t, row(65), 0, api.ErrForm)
	refused(t, " \n"+row(65), 2, api.ErrForm)
	refused(t, row(65)+" ;", 0, api.ErrForm)
	refused(t, row(65)+" & ;", len(row(65))+3, api.ErrSyntax)
	sum := func(k int) string { return "1" + strings.Repeat(" + 1", k) }
	if x, at, err := ttext.Parse(sum(63)); terms.Deep(x) != 64 || at != len(sum(63)) || err != api.OK {
		t.Error(at, err)
	}
	refused(t, sum(64), 0, api.ErrDeep)
	refused(t, "1"+strings.Repeat("*1", 32767), 0, api.ErrDeep)
	refused(t, "  ("+sum(64)+")", 2, api.ErrDeep)
	group := "(" + strings.Repeat("1|", 63) + "1)"
	refused(t, group+strings.Repeat("&"+group, 63), 0, api.ErrLong)
}

// nested returns many times the opening text, then inside, then as many times the closing text.
func nested(many int, open, inside, shut string) string {
	return strings.Repeat(open, many) + inside + strings.Repeat(shut, many)
}

func TestNestingDepth(t *testing.T) {
	parsed(t, nested(256, "(", "a", ")"), a)
	parsed(t, nested(256, "(", "a + next(b)", ")"), op(api.TAdd, a, next("b")))
	parsed(t, nested(255, "(", "!a", ")"), op(api.TNot, a))
	parsed(t, nested(254, "(", "!(a)", ")")+" & "+nested(256, "(", "b", ")"), op(api.TAnd, op(api.TNot, a), b))
	parsed(t, nested(255, "(", "a -> b", ")"), op(api.TImp, a, b))
	parsed(t, nested(255, "(", "if a then b else c", ")"), branch(a, b, c))
	for open, shut := range map[string]string{"(": ")", "!": "", "a->": "", "if ": " then b else c", "if a then ": " else c", "if a then b else ": ""} {
		size := len(open)
		at := 256 * size
		if open == "a->" {
			at++
		}
		err := api.ErrDeep
		if open != "(" {
			refused(t, nested(256, open, "a", shut), 0, err)
			refused(t, nested(64, open, "a", shut), 0, err)
			refused(t, " "+nested(64, open, "a", shut), 1, err)
		}
		refused(t, nested(257, open, "a", shut), at, err)
		refused(t, nested(257, open, ";", shut), at, err)
		refused(t, nested(256, open, ";", ""), 256*size, api.ErrSyntax)
		refused(t, nested(256, open, ")", ""), 256*size, api.ErrSyntax)
		refused(t, nested(256, open, "", ""), 256*size, api.ErrSyntax)
		refused(t, strings.Repeat(open, 1000), at, err)
		for _, more := range []string{"(a)", "!a", "if a then b else c"} {
			refused(t, nested(256, open, more, shut), 256*size, err)
		}
	}
	for s, at := range map[string]int{"a -> b": 2, "a & b -> c": 6, "(": 0, "a & !b": 4, "a * (b)": 4, "a + if b then c else d": 4, "next(a) -> b": 8} {
		refused(t, nested(256, "(", s, ")"), 256+at, api.ErrDeep)
	}
	for s, at := range map[string]int{"a !b": 2, "a (b)": 2, "next(!a)": 5, "next((a))": 5, "a + !b": 4, "-(1)": 1, "a = b = c": 6} {
		refused(t, nested(256, "(", s, ")"), 256+at, api.ErrSyntax)
	}
}

func TestWhatEndsANesting(t *testing.T) {
	x := op(api.TAnd, a, op(api.TNot, a), branch(a, a, a))
	parsed(t, nested(255, "(", "a", ")")+" & !"+nested(255, "(", "a", ")")+" & if "+nested(255, "(", "a", ")")+" then "+nested(255, "(", "a", ")")+" else "+nested(255, "(", "a", ")"), x)
	parsed(t, nested(254, "(", "a -> b", ")")+" -> "+nested(254, "(", "a -> b", ")"), op(api.TImp, op(api.TImp, a, b), op(api.TImp, a, b)))
	refused(t, "a -> "+nested(255, "(", "a -> b", ")"), 5+255+2, api.ErrDeep)
	parsed(t, "a -> b & "+nested(255, "(", "a", ")"), op(api.TImp, a, op(api.TAnd, b, a)))
	x = branch(a, b, c)
	parsed(t, "(if a then b else c) & "+nested(256, "(", "a", ")"), op(api.TAnd, x, a))
	parsed(t, "if a then b else c <-> d <-> "+nested(255, "(", "!a", ")"), op(api.TIff, branch(a, b, op(api.TIff, c, d)), op(api.TNot, a)))
	parsed(t, "!a = b -> "+nested(255, "(", "c", ")"), op(api.TImp, op(api.TNot, op(api.TEq, a, b)), c))
}

func token(kind int, text string) lexi.Token { return lexi.Token{Kind: kind, Text: text} }

// took checks Take of l from token i on.
func took(t *testing.T, l []lexi.Token, i int, x api.Term, next int, err api.Errno) {
	t.Helper()
	old := slices.Clone(l)
	if got, at, fault := ttext.Take(l, i); !terms.Same(got, x) || at != next || fault != err {
		t.Errorf("Take(%v, %d): %v, %d, %d; want %v, %d, %d", l, i, got, at, fault, x, next, err)
	}
	if !slices.Equal(l, old) {
		t.Errorf("Take has changed its argument: %v", l)
	}
}

func TestTakeWithin(t *testing.T) {
	l, _, _ := lexi.All("a + 1 ; ! b ] a & ;")
	none := api.Term{}
	took(t, l, 0, op(api.TAdd, a, num(1)), 3, api.OK)
	took(t, l, 1, none, 1, api.ErrSyntax)
	took(t, l, 2, num(1), 3, api.OK)
	took(t, l, 3, none, 3, api.ErrSyntax)
	took(t, l, 4, op(api.TNot, b), 6, api.OK)
	took(t, l, 7, none, 9, api.ErrSyntax)
	took(t, l, 10, none, 10, api.ErrSyntax)
	took(t, l[:9], 7, none, 9, api.ErrSyntax)
	took(t, l[:8], 7, a, 8, api.OK)
	for _, i := range []int{-1, 11, 100, math.MinInt, math.MaxInt} {
		took(t, l, i, none, 0, api.ErrRange)
	}
	took(t, nil, 0, none, 0, api.ErrSyntax)
	took(t, nil, 1, none, 0, api.ErrRange)
	deep, _, _ := lexi.All("a ; " + nested(257, "(", "a", ")") + " ; " + nested(64, "!", "a", ""))
	took(t, deep, 2, none, 2+256, api.ErrDeep)
	took(t, deep, 3, a, 3+256+1+256, api.OK)
	took(t, deep, 2+257+1+257+1, none, 2+257+1+257+1, api.ErrDeep)
	took(t, deep, 2+257+1+257+2, chain(63, a), len(deep), api.OK)
}

// chain returns x below many negations.
func chain(many int, x api.Term) api.Term {
	for range many {
		x = op(api.TNot, x)
	}
	return x
}

func TestTokensOfNoText(t *testing.T) {
	none := api.Term{}
	one := func(x lexi.Token) []lexi.Token { return []lexi.Token{x} }
	took(t, one(lexi.Token{Kind: lexi.Num, N: 7, Text: "9"}), 0, num(7), 1, api.OK)
	took(t, one(lexi.Token{Kind: lexi.Num, N: -255, Text: "true"}), 0, num(-255), 1, api.OK)
	for _, n := range []int{256, -256, math.MinInt, math.MaxInt} {
		took(t, one(lexi.Token{Kind: lexi.Num, N: n}), 0, none, 0, api.ErrRange)
		took(t, []lexi.Token{token(lexi.Sign, "-"), {Kind: lexi.Num, N: n}}, 0, none, 0, api.ErrRange)
	}
	took(t, []lexi.Token{token(lexi.Sign, "-"), {Kind: lexi.Num, N: -5}}, 0, num(5), 2, api.OK)
	for _, s := range []string{"if", "true", "(", "next", "1", " ", "\xff", strings.Repeat("x", 24)} {
		took(t, one(token(lexi.Name, s)), 0, name(s), 1, api.OK)
		took(t, []lexi.Token{token(lexi.Word, "next"), token(lexi.Sign, "("), token(lexi.Name, s), token(lexi.Sign, ")")}, 0, next(s), 4, api.OK)
	}
	for _, s := range []string{"", strings.Repeat("x", 25)} {
		took(t, one(token(lexi.Name, s)), 0, none, 0, api.ErrName)
		took(t, []lexi.Token{token(lexi.Sign, "!"), token(lexi.Name, s), token(lexi.Sign, ";")}, 0, none, 0, api.ErrName)
	}
	for _, x := range []lexi.Token{
		{}, token(0, "a"), token(6, "a"), token(-1, "true"), token(lexi.End, ""), token(lexi.End, "a"), token(lexi.Word, "a"), token(lexi.Word, ""), token(lexi.Word, "("), token(lexi.Word, "!"), token(lexi.Word, "-"),
		token(lexi.Sign, ""), token(lexi.Sign, "true"), token(lexi.Sign, "if"), token(lexi.Sign, "next"), token(lexi.Sign, "a"), token(lexi.Sign, "1"), token(lexi.Word, "True"), token(math.MaxInt, "("), token(lexi.Sign, "-1"), token(lexi.Sign, "()"),
	} {
		took(t, one(x), 0, none, 0, api.ErrSyntax)
		took(t, []lexi.Token{token(lexi.Name, "a"), x}, 0, a, 1, api.OK)
		took(t, []lexi.Token{token(lexi.Name, "a"), token(lexi.Sign, "+"), x}, 0, none, 2, api.ErrSyntax)
	}
	for text, kind := range map[string]int{"mod": lexi.Sign, "&": lexi.Word, "|": lexi.Name, "->": lexi.Word, "<->": lexi.End, "=": lexi.Num, "+": 0, "*": lexi.Word, "==": lexi.Sign, ">": lexi.Sign, "MOD": lexi.Word} {
		took(t, []lexi.Token{token(lexi.Name, "a"), token(kind, text), token(lexi.Name, "b")}, 0, a, 1, api.OK)
	}
	took(t, []lexi.Token{token(lexi.Sign, "("), token(lexi.Name, "a"), token(lexi.Word, ")")}, 0, none, 2, api.ErrSyntax)
	took(t, []lexi.Token{token(lexi.Word, "if"), token(lexi.Name, "a"), token(lexi.Name, "then"), token(lexi.Name, "b")}, 0, none, 2, api.ErrSyntax)
	took(t, []lexi.Token{token(lexi.Word, "next"), token(lexi.Sign, "("), token(lexi.Word, "true"), token(lexi.Sign, ")")}, 0, none, 2, api.ErrSyntax)
	took(t, []lexi.Token{token(lexi.Word, "next"), token(lexi.Name, "("), token(lexi.Name, "a"), token(lexi.Sign, ")")}, 0, none, 1, api.ErrSyntax)
}

func TestShowRefuses(t *testing.T) {
	one := []api.Term{yes}
	long := name(strings.Repeat("x", 24))
	for _, x := range []struct {
		t   api.Term
		err api.Errno
	}{
		{api.Term{}, api.ErrKind}, {op(19), api.ErrKind}, {op(api.TNot), api.ErrForm}, {num(256), api.ErrRange}, {api.Term{Op: api.TBool, N: 2}, api.ErrRange}, {name(""), api.ErrName}, {next(""), api.ErrName}, {name(strings.Repeat("x", 25)), api.ErrName},
		{op(api.TAnd, one...), api.ErrForm}, {op(api.TOr, one...), api.ErrForm}, {op(api.TNot, op(api.TOr, one...)), api.ErrForm}, {branch(a, b, op(api.TAnd, yes)), api.ErrForm}, {op(api.TAnd), api.ErrForm},
		{name("true"), api.ErrForm}, {name("mod"), api.ErrForm}, {name("1"), api.ErrForm}, {name("_a"), api.ErrForm}, {name("a b"), api.ErrForm}, {name("ä"), api.ErrForm}, {name("a\x00"), api.ErrForm}, {next("if"), api.ErrForm}, {op(api.TAdd, a, next("-")), api.ErrForm},
		{op(api.TAnd, name("U"), num(256)), api.ErrRange}, {chain(64, a), api.ErrDeep}, {chain(64, name("U")), api.ErrDeep}, {chain(63, name("U")), api.ErrForm},
		{grid(64, 64, long), api.ErrLong}, {grid(63, 64, long), api.ErrLong}, {grid(63, 64, name("if")), api.ErrForm}, {op(api.TIff, grid(60, 64, long), name("if")), api.ErrForm}, {op(api.TIff, grid(60, 64, long), op(api.TAnd, a)), api.ErrForm}, {op(api.TAnd, slices.Repeat([]api.Term{a}, 65)...), api.ErrForm},
	} {
		if s, err := ttext.Show(x.t); s != "" || err != x.err {
			t.Errorf("Show: %q, %d; want %d", s[:min(len(s), 80)], err, x.err)
		}
	}
	shown(t, chain(63, a), strings.Repeat("!", 63)+"a")
}

// grid returns a disjunction of conjunctions of x.
func grid(rows, columns int, x api.Term) api.Term {
	return op(api.TOr, slices.Repeat([]api.Term{op(api.TAnd, slices.Repeat([]api.Term{x}, columns)...)}, rows)...)
}

// sized returns a term of 42 * 64 names, whose text has that many bytes.
func sized(bytes int) api.Term {
	x := op(api.TOr)
	names := 42 * 64
	rest := bytes - 3*(names-1)
	for range 42 {
		row := op(api.TAnd)
		for range 64 {
			length := rest / names
			row.Kids = append(row.Kids, name(strings.Repeat("x", length)))
			rest -= length
			names--
		}
		x.Kids = append(x.Kids, row)
	}
	return x
}

func TestTheLongestText(t *testing.T) {
	for _, bytes := range []int{api.MaxText - 1, api.MaxText} {
		x := sized(bytes)
		s, err := ttext.Show(x)
		if len(s) != bytes || err != api.OK {
			t.Fatal(len(s), err)
		}
		parsed(t, s, x)
	}
	for _, bytes := range []int{api.MaxText + 1, api.MaxText + 2, api.MaxText + 1000} {
		if s, err := ttext.Show(sized(bytes)); s != "" || err != api.ErrLong {
			t.Error(len(s), err)
		}
	}
}
