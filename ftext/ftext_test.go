package ftext_test

import (
	"math"
	"slices"
	"strings"
	"testing"

	"voussoir/api"
	"voussoir/forms"
	"voussoir/ftext"
	"voussoir/lexi"
)

var yes = api.Term{Op: api.TBool, N: 1}
var a, b, c, d = name("a"), name("b"), name("c"), name("d")

func op(k int, kids ...api.Form) api.Form { return api.Form{Op: k, Kids: kids} }
func of(t api.Term) api.Form              { return api.Form{Op: api.FTerm, E: t} }
func word(s string) api.Term              { return api.Term{Op: api.TName, Name: s} }
func name(s string) api.Form              { return of(word(s)) }
func not(f api.Form) api.Form             { return op(api.FNot, f) }
func and(f, g api.Form) api.Form          { return op(api.FAnd, f, g) }
func or(f, g api.Form) api.Form           { return op(api.FOr, f, g) }
func imp(f, g api.Form) api.Form          { return op(api.FImp, f, g) }
func term(k int, kids ...api.Term) api.Term {
	return api.Term{Op: k, Kids: kids}
}

// parsed checks that s stands for f.
func parsed(t *testing.T, s string, f api.Form) {
	t.Helper()
	if got, at, err := ftext.Parse(s); !forms.Same(got, f) || at != len(s) || err != api.OK {
		t.Errorf("Parse(%.99q): %d, %d, or the wrong formula", s, at, err)
	}
}

// shown checks that s is what Show makes of f, and that s stands for f.
func shown(t *testing.T, f api.Form, s string) {
	t.Helper()
	if got, err := ftext.Show(f); got != s || err != api.OK {
		t.Errorf("Show: %.99q, %d; want %.99q", got, err, s)
	}
	parsed(t, s, f)
}

// refused checks that Parse refuses s.
func refused(t *testing.T, s string, at int, err api.Errno) {
	t.Helper()
	if got, place, fault := ftext.Parse(s); !forms.Same(got, api.Form{}) || place != at || fault != err {
		t.Errorf("Parse(%.99q): %d, %d; want %d, %d", s, place, fault, at, err)
	}
}

func TestTheExamples(t *testing.T) {
	two := of(term(api.TEq, word("b"), api.Term{Op: api.TNum, N: 2}))
	shown(t, imp(a, op(api.FEF, not(or(two, c)))), "[a] -> EF !([b = 2] | [c])")
	shown(t, op(api.FEU, a, b), "E[[a] U [b]]")
	refused(t, "[a] | ;", 6, api.ErrSyntax)
	refused(t, "EX EX", 5, api.ErrSyntax)
}

func TestEveryOperator(t *testing.T) {
	for k, s := range map[int]string{api.FEX: "EX", api.FEF: "EF", api.FEG: "EG", api.FAX: "AX", api.FAF: "AF", api.FAG: "AG"} {
		shown(t, op(k, a), s+" [a]")
		shown(t, op(k, op(k, not(a))), s+" "+s+" ![a]")
		shown(t, op(k, and(a, b)), s+" ([a] & [b])")
		shown(t, and(op(k, a), op(k, b)), s+" [a] & "+s+" [b]")
		shown(t, op(k, op(api.FAU, a, b)), s+" A[[a] U [b]]")
		parsed(t, s+"[a]", op(k, a))
		parsed(t, s+"([a])&[b]", and(op(k, a), b))
		refused(t, s, 2, api.ErrSyntax)
		refused(t, s+" & [a]", 3, api.ErrSyntax)
		refused(t, s+"[[a] U [b]]", 3, api.ErrSyntax)
	}
	for k, s := range map[int]string{api.FEU: "E", api.FAU: "A"} {
		shown(t, op(k, a, b), s+"[[a] U [b]]")
		shown(t, op(k, imp(a, b), imp(b, a)), s+"[[a] -> [b] U [b] -> [a]]")
		shown(t, op(k, or(a, b), op(k, not(c), d)), s+"[[a] | [b] U "+s+"[![c] U [d]]]")
		shown(t, not(op(k, op(k, a, b), c)), "!"+s+"["+s+"[[a] U [b]] U [c]]")
		parsed(t, s+" [ ( [ a ] ) U([b])\n]", op(k, a, b))
		for text, at := range map[string]int{"": 1, " ": 2, "[": 2, "[]": 2, "[a]": 2, "[[a]": 5, "[[a] [b]]": 6, "[[a] U": 7, "[[a] U]": 7, "[[a] U [b]": 11, "[[a] U [b] U [c]]": 12, "([a] U [b])": 1, "[(a] U [b])": 3, " [a]": 3, "X [a]": 0, "[[a] -> U [b]]": 9} {
			switch {
			case text == "X [a]":
				parsed(t, s+text, op(map[string]int{"E": api.FEX, "A": api.FAX}[s], a))
			default:
				refused(t, s+text, at, api.ErrSyntax)
			}
		}
	}
	shown(t, not(not(a)), "!![a]")
	shown(t, a, "[a]")
	shown(t, of(yes), "[true]")
}

func TestHowOperatorsAssociate(t *testing.T) {
	shown(t, and(and(a, b), c), "[a] & [b] & [c]")
	shown(t, and(a, and(b, c)), "[a] & ([b] & [c])")
	shown(t, or(or(or(a, b), c), d), "[a] | [b] | [c] | [d]")
	shown(t, or(or(a, b), or(c, d)), "[a] | [b] | ([c] | [d])")
	shown(t, imp(a, imp(b, imp(c, d))), "[a] -> [b] -> [c] -> [d]")
	shown(t, imp(imp(imp(a, b), c), d), "(([a] -> [b]) -> [c]) -> [d]")
	shown(t, or(and(a, b), and(c, d)), "[a] & [b] | [c] & [d]")
	shown(t, and(or(a, b), or(c, d)), "([a] | [b]) & ([c] | [d])")
	shown(t, imp(or(a, b), or(c, d)), "[a] | [b] -> [c] | [d]")
	shown(t, or(imp(a, b), imp(c, d)), "([a] -> [b]) | ([c] -> [d])")
	shown(t, and(imp(a, b), imp(c, d)), "([a] -> [b]) & ([c] -> [d])")
	shown(t, not(imp(a, b)), "!([a] -> [b])")
	shown(t, and(not(a), not(b)), "![a] & ![b]")
	parsed(t, "[a]&[b]|![c]&[d]->[a]", imp(or(and(a, b), and(not(c), d)), a))
	parsed(t, "((([a])))", a)
}

func TestSpaceAndRemarks(t *testing.T) {
	want := imp(not(a), op(api.FEU, b, c))
	for _, s := range []string{"![a]->E[[b]U[c]]", " ! [ a ]\t->\nE -- a remark\n [ [ b ]\r U [ c ] ] ", "!([a])->(E[([b])U([c])])--"} {
		parsed(t, s, want)
	}
}

func TestSyntaxErrors(t *testing.T) {
	for s, at := range map[string]int{
		"": 0, "  ": 2, "a": 0, "true": 0, "[": 1, "[]": 1, "[a": 2, "[a b]": 3, "[a] [b]": 4, "[a]]": 3, "]": 0, "()": 1, "(": 1, "([a]": 4, "([a]]": 4, "([a] ;": 5, ")": 0, "U": 0, "EU [a]": 0, "[a] U [b]": 4, "X [a]": 0,
		"!": 1, "!;": 1, "! !": 3, "!a": 1, "[a] &": 5, "[a] & &": 6, "[a] & | [b]": 6, "[a] |": 5, "[a] | ->": 6, "[a] ->": 6, "[a] -> -> [b]": 7, "& [a]": 0, "| [a]": 0, "-> [a]": 0, "[a] <-> [b]": 4, "[a] = [b]": 4, "[a] ! [b]": 4, "[a] EX [b]": 4, "[a] ([b])": 4,
		"[a + ]": 5, "[a] & [": 7, "[a & ([b])]": 6, "[EX a]": 1, "[a -> ]": 6, "[a = b = c]": 7, "[next(a]": 7, "[if a then b]": 12, "[a] & [b &]": 10, "(a)": 1, "([a])([b])": 5, "EX (a)": 4, "[a] -- & [b": 11, "[a] ;": 4, "[a] := [b]": 4,
	} {
		switch s {
		case "[a] -- & [b":
			parsed(t, s, a)
		default:
			refused(t, s, at, api.ErrSyntax)
		}
	}
	refused(t, "[a] $", 4, api.ErrToken)
	refused(t, "; [a] $", 6, api.ErrToken)
	refused(t, "[a + 01]", 5, api.ErrToken)
	refused(t, "[256] ;", 1, api.ErrRange)
	refused(t, "["+strings.Repeat("b", 25)+"]", 1, api.ErrLong)
	refused(t, strings.Repeat(";", api.MaxText+1), 0, api.ErrLong)
	refused(t, strings.Repeat(" ", api.MaxText), api.MaxText, api.ErrSyntax)
	parsed(t, "[a]"+strings.Repeat(" ", api.MaxText-3), a)
	refused(t, strings.Repeat(" ", api.MaxText-2)+"[a]", 0, api.ErrLong)
}

func TestWrongTermsAndFormulas(t *testing.T) {
	row := func(k int) string { return "true" + strings.Repeat(" & true", k-1) }
	refused(t, "["+row(65)+"]", 1, api.ErrForm)
	refused(t, "["+row(65)+" ;", 1, api.ErrForm)
	refused(t, "EX ([a] & [ "+row(65), 12, api.ErrForm)
	refused(t, "[a] & [1"+strings.Repeat(" + 1", 64)+"]", 7, api.ErrDeep)
	refused(t, "[a] & ["+strings.Repeat("(", 257), 7+256, api.ErrDeep)
	refused(t, "[next(a)]", 0, api.ErrPlace)
	refused(t, "  EX ([a] -> [b & next(a)])", 2, api.ErrPlace)
	refused(t, "[next(a)] [b]", 0, api.ErrPlace)
	refused(t, "[next(a)] & ;", 12, api.ErrSyntax)
	refused(t, "[next(a)] & ["+row(65)+"]", 13, api.ErrForm)
	many := func(k int, between string) string { return "[a]" + strings.Repeat(between+"[a]", k) }
	for _, between := range []string{"|", "&", "->"} {
		f, at, err := ftext.Parse(many(63, between))
		if forms.Deep(f) != 64 || forms.Size(f) != 127 || at != len(many(63, between)) || err != api.OK {
			t.Error(between, at, err)
		}
		refused(t, many(64, between), 0, api.ErrDeep)
		refused(t, "\n("+many(64, between)+")", 1, api.ErrDeep)
		refused(t, many(64, between)+between+";", 3*65+64*len(between)+len(between), api.ErrSyntax)
		refused(t, many(64, between)+" ;", 0, api.ErrDeep)
	}
	refused(t, many(13000, "|"), 0, api.ErrDeep)
	group := "(" + many(31, "|") + ")" // of 63 nodes
	large := "(" + group + strings.Repeat("&"+group, 30) + ")"
	parsed63, _, err := ftext.Parse(large)
	if forms.Size(parsed63) != 31*63+30 || err != api.OK {
		t.Error(forms.Size(parsed63), err)
	}
	refused(t, large+"->"+large+"->"+large, 0, api.ErrLong)
}

// nested returns many times the opening text, then inside, then as many times the closing text.
func nested(many int, open, inside, shut string) string {
	return strings.Repeat(open, many) + inside + strings.Repeat(shut, many)
}

func TestNestingDepth(t *testing.T) {
	parsed(t, nested(256, "(", "[a]", ")"), a)
	parsed(t, nested(256, "(", "[(a)] & [(((b)))]", ")"), and(a, b))
	parsed(t, nested(256, "(", "["+nested(256, "(", "a", ")")+"]", ")"), a)
	parsed(t, nested(255, "(", "![a]", ")"), not(a))
	parsed(t, nested(255, "(", "[a] -> [b]", ")"), imp(a, b))
	parsed(t, nested(255, "(", "AG [a]", ")"), op(api.FAG, a))
	parsed(t, nested(255, "(", "E[[a] U [b]]", ")"), op(api.FEU, a, b))
	parsed(t, nested(254, "(", "A[([a]) U ![b]]", ")"), op(api.FAU, a, not(b)))
	for open, shut := range map[string]string{"(": ")", "!": "", "[a]->": "", "EX ": "", "EF ": "", "EG ": "", "AX ": "", "AF ": "", "AG ": "", "E[": " U [b]]", "E[[a] U ": "]", "A[": " U [b]]", "A[[a] U ": "]"} {
		size := len(open)
		at := 256 * size
		if open == "[a]->" {
			at += 3
		}
		if open != "(" {
			refused(t, nested(256, open, "[a]", shut), 0, api.ErrDeep)
			refused(t, " "+nested(64, open, "[a]", shut), 1, api.ErrDeep)
		}
		refused(t, nested(257, open, "[a]", shut), at, api.ErrDeep)
		refused(t, nested(257, open, ";", shut), at, api.ErrDeep)
		refused(t, strings.Repeat(open, 1000), at, api.ErrDeep)
		refused(t, nested(256, open, ";", ""), 256*size, api.ErrSyntax)
		refused(t, nested(256, open, "", ""), 256*size, api.ErrSyntax)
		refused(t, nested(256, open, "[a &]", shut), 256*size+4, api.ErrSyntax)
		for _, more := range []string{"([a])", "![a]", "EX [a]", "AG [a]", "E[[a] U [b]]", "A;"} {
			refused(t, nested(256, open, more, shut), 256*size, api.ErrDeep)
		}
	}
	for s, at := range map[string]int{"[a] -> [b]": 4, "[a] & [b] | [c] -> [d]": 16, "(": 0, "[a] & ![b]": 6, "[a] | EF": 6, "[a] & (": 6} {
		refused(t, nested(256, "(", s, ")"), 256+at, api.ErrDeep)
	}
	for s, at := range map[string]int{"[a] ![b]": 4, "[a] ([b])": 4, "[a] EX": 4, "-> [b]": 0, "[a !]": 3} {
		refused(t, nested(256, "(", s, ")"), 256+at, api.ErrSyntax)
	}
}

func TestWhatEndsANesting(t *testing.T) {
	deep := nested(255, "(", "[a]", ")")
	parsed(t, deep+" & !"+deep+" & EX "+deep+" & E["+deep+" U "+deep+"] & "+nested(256, "(", "[a]", ")"), and(and(and(and(a, not(a)), op(api.FEX, a)), op(api.FEU, a, a)), a))
	parsed(t, "!([a]) -> "+deep, imp(not(a), a))
	parsed(t, "(E[!([a]) U ([b] -> [c])] & ([a])) -> "+deep, imp(and(op(api.FEU, not(a), imp(b, c)), a), a))
	parsed(t, "[a] -> [b] | "+deep, imp(a, or(b, a)))
	parsed(t, "[a] -> [b] -> "+nested(254, "(", "[a]", ")"), imp(a, imp(b, a)))
	refused(t, "[a] -> [b] -> "+deep, 14+254, api.ErrDeep)
	refused(t, "E["+deep+" U "+nested(256, "(", "[a]", ")"), 2+len(deep)+3+255, api.ErrDeep)
}

func token(kind int, text string) lexi.Token { return lexi.Token{Kind: kind, Text: text} }

// took checks Take of l from token i on.
func took(t *testing.T, l []lexi.Token, i int, f api.Form, next int, err api.Errno) {
	t.Helper()
	old := slices.Clone(l)
	if got, at, fault := ftext.Take(l, i); !forms.Same(got, f) || at != next || fault != err {
		t.Errorf("Take(%.99v, %d): %d, %d; want %d, %d", l, i, at, fault, next, err)
	}
	if !slices.Equal(l, old) {
		t.Errorf("Take has changed its argument: %v", l)
	}
}

func TestTake(t *testing.T) {
	l, _, _ := lexi.All("EX [a] ; [b] & ! [c] ] [next(d)] [a] | ;")
	none := api.Form{}
	took(t, l, 0, op(api.FEX, a), 4, api.OK)
	took(t, l, 1, a, 4, api.OK)
	took(t, l, 2, none, 2, api.ErrSyntax)
	took(t, l, 4, none, 4, api.ErrSyntax)
	took(t, l, 5, and(b, not(c)), 13, api.OK)
	took(t, l, 14, none, 14, api.ErrPlace)
	took(t, l, 20, none, 24, api.ErrSyntax)
	took(t, l[:24], 20, none, 24, api.ErrSyntax)
	took(t, l[:23], 20, a, 23, api.OK)
	took(t, l[:22], 20, none, 22, api.ErrSyntax)
	took(t, l[:21], 20, none, 21, api.ErrSyntax)
	took(t, l, 25, none, 25, api.ErrSyntax)
	for _, i := range []int{-1, 26, 100, math.MinInt, math.MaxInt} {
		took(t, l, i, none, 0, api.ErrRange)
	}
	took(t, nil, 0, none, 0, api.ErrSyntax)
	took(t, nil, 1, none, 0, api.ErrRange)
}

func TestTokensOfNoText(t *testing.T) {
	none := api.Form{}
	open, shut := token(lexi.Sign, "["), token(lexi.Sign, "]")
	took(t, []lexi.Token{open, {Kind: lexi.Num, N: -7, Text: "x"}, shut}, 0, of(api.Term{Op: api.TNum, N: -7}), 3, api.OK)
	took(t, []lexi.Token{open, {Kind: lexi.Num, N: 256}, shut}, 0, none, 1, api.ErrRange)
	took(t, []lexi.Token{open, token(lexi.Name, "EX"), shut}, 0, name("EX"), 3, api.OK)
	took(t, []lexi.Token{open, token(lexi.Name, ""), shut}, 0, none, 1, api.ErrName)
	took(t, []lexi.Token{open, token(lexi.Name, "a"), token(lexi.Word, "]")}, 0, none, 2, api.ErrSyntax)
	for _, x := range []lexi.Token{{}, token(lexi.End, ""), token(lexi.End, "["), token(0, "["), token(lexi.Word, "["), token(lexi.Name, "["), token(lexi.Word, "("), token(lexi.Word, "!"), token(lexi.Sign, "EX"), token(lexi.Name, "EX"), token(lexi.Sign, "E"), token(lexi.Name, "A"), token(lexi.Word, "ex"), token(lexi.Word, ""), token(lexi.Word, "U"), token(math.MaxInt, "!")} {
		took(t, []lexi.Token{x, open, token(lexi.Name, "a"), shut}, 0, none, 0, api.ErrSyntax)
		took(t, []lexi.Token{token(lexi.Sign, "!"), x, open}, 0, none, 1, api.ErrSyntax)
		took(t, []lexi.Token{open, token(lexi.Name, "a"), shut, x, open}, 0, a, 3, api.OK)
	}
	for _, x := range []lexi.Token{token(lexi.Word, "&"), token(lexi.Word, "|"), token(lexi.Name, "->"), token(lexi.End, "->"), token(lexi.Sign, "U"), token(lexi.Sign, "=")} {
		took(t, []lexi.Token{open, token(lexi.Name, "a"), shut, x, open, token(lexi.Name, "b"), shut}, 0, a, 3, api.OK)
	}
	took(t, []lexi.Token{token(lexi.Word, "E"), open, open, token(lexi.Name, "a"), shut, token(lexi.Name, "U"), open}, 0, none, 5, api.ErrSyntax)
	took(t, []lexi.Token{token(lexi.Word, "A"), token(lexi.Word, "["), open, token(lexi.Name, "a"), shut}, 0, none, 1, api.ErrSyntax)
}

// wide returns a disjunction of conjunctions, half of them nested in the other half, of that many formulas x.
func wide(many int, x api.Form) api.Form {
	if many == 1 {
		return x
	}
	return and(wide(many/2, x), wide(many-many/2, x))
}

func TestShowRefuses(t *testing.T) {
	one := term(api.TAnd, yes)
	long := of(term(api.TOr, slices.Repeat([]api.Term{word(strings.Repeat("x", 24))}, 64)...)) // of more than 1600 bytes
	for i, x := range []struct {
		f   api.Form
		err api.Errno
	}{
		{api.Form{}, api.ErrKind}, {op(14), api.ErrKind}, {op(api.FNot), api.ErrForm}, {of(term(api.TNext)), api.ErrName}, {of(api.Term{Op: api.TNext, Name: "a"}), api.ErrPlace}, {of(api.Term{}), api.ErrKind}, {and(a, of(one)), api.ErrForm},
		{api.Form{Op: api.FNot, E: yes, Kids: []api.Form{a}}, api.ErrForm}, {name("EX"), api.ErrForm}, {name("a b"), api.ErrForm}, {name(""), api.ErrName}, {op(api.FEU, a, name("if")), api.ErrForm}, {op(api.FEU, of(one), a), api.ErrForm},
		{and(of(one), of(api.Term{Op: api.TNum, N: 256})), api.ErrRange},
		{wide(64, long), api.ErrLong}, {and(wide(64, long), of(one)), api.ErrForm}, {and(wide(64, long), op(api.FEX, name("U"))), api.ErrForm},
		{or(of(one), of(wideTerm(4096/64))), api.ErrForm}, {or(of(wideTerm(4096/64)), of(one)), api.ErrLong},
	} {
		if s, err := ftext.Show(x.f); s != "" || err != x.err {
			t.Errorf("%d: Show: %.99q, %d; want %d", i, s, err, x.err)
		}
	}
	deep := a
	for range 63 {
		deep = op(api.FAX, deep)
	}
	shown(t, deep, strings.Repeat("AX ", 63)+"[a]")
	if s, err := ftext.Show(not(deep)); s != "" || err != api.ErrDeep {
		t.Error(s, err)
	}
}

// wideTerm returns a term of so many rows that ttext can't show it.
func wideTerm(rows int) api.Term {
	row := term(api.TAnd, slices.Repeat([]api.Term{word(strings.Repeat("x", 24))}, 63)...)
	return term(api.TOr, slices.Repeat([]api.Term{row}, rows-1)...)
}

// lengthened returns a formula of 1024 terms, whose text has that many bytes.
func lengthened(bytes int) api.Form {
	left := 1024
	short, _ := ftext.Show(wide(left, name("x")))
	rest := bytes - (len(short) - left)
	var fill func(f api.Form) api.Form
	fill = func(f api.Form) api.Form {
		if f.Op == api.FAnd {
			g := fill(f.Kids[0])
			return and(g, fill(f.Kids[1]))
		}
		length := rest / left
		rest -= length
		left--
		var names []api.Term
		for i := range 3 {
			names = append(names, word(strings.Repeat("x", (length-6+i)/3)))
		}
		return of(term(api.TAnd, names...))
	}
	return fill(wide(left, name("x")))
}

func TestTheLongestText(t *testing.T) {
	for _, bytes := range []int{api.MaxText - 1, api.MaxText, api.MaxText + 1, api.MaxText + 2} {
		f := lengthened(bytes)
		s, err := ftext.Show(f)
		if bytes > api.MaxText {
			if s != "" || err != api.ErrLong {
				t.Error(bytes, len(s), err)
			}
			continue
		}
		if len(s) != bytes || err != api.OK {
			t.Fatal(bytes, len(s), err)
		}
		parsed(t, s, f)
	}
}
