package ttext_test

import (
	"math/rand"
	"slices"
	"strconv"
	"strings"
	"testing"

	"voussoir/api"
	"voussoir/lexi"
	"voussoir/terms"
	"voussoir/ttext"
)

// signs tells how the operators between two operands are written.
var signs = map[int]string{
	api.TAnd: "&", api.TOr: "|", api.TImp: "->", api.TIff: "<->", api.TEq: "=", api.TNe: "!=",
	api.TLt: "<", api.TLe: "<=", api.TAdd: "+", api.TSub: "-", api.TMul: "*", api.TMod: "mod",
}

// rules are the rules of the grammar; each has the next one as an alternative.
var rules = []string{"term", "imp", "or", "and", "not", "cmp", "sum", "prod", "unit"}

// own tells for each operator its rule, and the rules of its operands; the last one is that of all further operands.
var own = map[int][]string{
	api.TIff: {"term", "imp", "imp"}, api.TImp: {"imp", "or", "imp"}, api.TOr: {"or", "and"}, api.TAnd: {"and", "not"}, api.TNot: {"not", "not"},
	api.TEq: {"cmp", "sum"}, api.TNe: {"cmp", "sum"}, api.TLt: {"cmp", "sum"}, api.TLe: {"cmp", "sum"},
	api.TAdd: {"sum", "sum", "prod"}, api.TSub: {"sum", "sum", "prod"}, api.TMul: {"prod", "prod", "unit"}, api.TMod: {"prod", "prod", "unit"},
	api.TNum: {"unit"}, api.TBool: {"unit"}, api.TName: {"unit"}, api.TNext: {"unit"}, api.TIf: {"unit", "term"},
}

// piece is a part of an output. The pieces that open and shut a Kid are seen only if it needs parentheses.
type piece struct {
	text   string
	hidden bool
	mate   int // for a piece that opens an if: the one that shuts it
}

// pieces appends the pieces of x, in which the parentheses are seen that the rules ask for.
func pieces(l []piece, x api.Term) []piece {
	switch x.Op {
	case api.TNum:
		return append(l, piece{text: strconv.Itoa(x.N)})
	case api.TBool:
		return append(l, piece{text: strconv.FormatBool(x.N == 1)})
	case api.TName:
		return append(l, piece{text: x.Name})
	case api.TNext:
		return append(l, piece{text: "next(" + x.Name + ")"})
	}
	before, between := []string{"", "", ""}, " "+signs[x.Op]+" "
	switch x.Op {
	case api.TNot:
		before[0] = "!"
	case api.TIf:
		before, between = []string{"if ", " then ", " else "}, ""
	}
	for i, kid := range x.Kids {
		if i < len(before) && before[i] != "" {
			l = append(l, piece{text: before[i]})
		}
		if i > 0 && between != "" {
			l = append(l, piece{text: between})
		}
		places := own[x.Op][1:]
		place := places[min(i, len(places)-1)]
		fits := slices.Index(rules, own[kid.Op][0]) >= slices.Index(rules, place)
		at := len(l)
		l = append(pieces(append(l, piece{text: "(", hidden: fits}), kid), piece{text: ")", hidden: fits})
		if kid.Op == api.TIf {
			l[at].mate = len(l) - 1
		}
	}
	return l
}

// written returns the text that Show promises for x.
func written(x api.Term) string {
	l := pieces(nil, x)
	for i := range l {
		if l[i].mate > 0 {
			after := l[i].mate + 1
			for after < len(l) && l[after].hidden {
				after++
			}
			if after < len(l) && !slices.Contains([]string{")", " then ", " else "}, l[after].text) {
				l[i].hidden, l[l[i].mate].hidden = false, false
			}
		}
	}
	var text strings.Builder
	for _, p := range l {
		if !p.hidden {
			text.WriteString(p.text)
		}
	}
	return text.String()
}

// enclosed returns a text of x with parentheses around all that can have them.
func enclosed(x api.Term) string {
	s := ""
	switch len(x.Kids) {
	case 0:
		s = written(x)
	case 1:
		s = "!" + enclosed(x.Kids[0])
	}
	for i, kid := range x.Kids {
		switch {
		case x.Op == api.TIf:
			s += []string{"if", "then", "else"}[i] + enclosed(kid)
		case len(x.Kids) > 1:
			s += strings.Repeat(" "+signs[x.Op]+"\n", min(i, 1)) + enclosed(kid)
		}
	}
	return "(" + s + ")"
}

// random returns a term that can be written, of that depth or less.
func random(r *rand.Rand, depth int) api.Term {
	if depth <= 1 || r.Intn(5) == 0 {
		return []api.Term{yes, no, a, name("b_1"), next("Xy"), num(r.Intn(511) - 255), num(-1), num(0)}[r.Intn(8)]
	}
	k := []int{api.TIf, api.TNot, api.TNot, api.TIf, api.TNot + r.Intn(14), api.TNot + r.Intn(14), api.TNot + r.Intn(14)}[r.Intn(7)]
	many := 2
	switch k {
	case api.TNot:
		many = 1
	case api.TIf:
		many = 3
	case api.TAnd, api.TOr:
		many = 2 + r.Intn(3)
	}
	x := op(k)
	for range many {
		x.Kids = append(x.Kids, random(r, depth-1))
	}
	return x
}

func TestRandomTerms(t *testing.T) {
	r := rand.New(rand.NewSource(31))
	for range 20000 {
		x := random(r, 1+r.Intn(6))
		shown(t, x, written(x))
		parsed(t, enclosed(x), x)
		if t.Failed() {
			return
		}
	}
}

// grammar tells for each symbol of a stack by what it can be replaced. Each token is one byte: % is <->, > is ->, m is mod, n a number, t true, a a name, x next, and i, h, e are if, then, else.
var grammar = map[byte][]string{
	'T': {"IY"}, 'Y': {"", "%I"}, 'I': {"OZ"}, 'Z': {"", ">I"}, 'O': {"AR"}, 'R': {"", "|AR"}, 'A': {"NS"}, 'S': {"", "&NS"}, 'N': {"!N", "C"},
	'C': {"UQ"}, 'Q': {"", "=U", "<U"}, 'U': {"PV"}, 'V': {"", "+PV", "-PV"}, 'P': {"XW"}, 'W': {"", "*XW", "mXW"},
	'X': {"n", "-n", "t", "a", "x(a)", "(T)", "iThTeT"},
}

var spelled = map[byte]string{'%': "<->", '>': "->", 'm': "mod", 'n': "1", 't': "true", 'x': "next", 'i': "if", 'h': "then", 'e': "else"}

// expand adds the stacks to which a stack leads, whose tops, at their beginnings, are tokens.
func expand(stack string, stacks map[string]bool) {
	if stack == "" || grammar[stack[0]] == nil {
		stacks[stack] = true
		return
	}
	for _, instead := range grammar[stack[0]] {
		expand(instead+stack[1:], stacks)
	}
}

// expected returns the index of the first token that no term goes on with, or whole if the tokens are a term.
func expected(tokens string) (at int, whole bool) {
	stacks := map[string]bool{}
	expand("T", stacks)
	for i := range len(tokens) {
		after := map[string]bool{}
		for stack := range stacks {
			if stack != "" && stack[0] == tokens[i] {
				expand(stack[1:], after)
			}
		}
		if len(after) == 0 {
			return i, false
		}
		stacks = after
	}
	return len(tokens), stacks[""]
}

// compare checks Parse of the tokens against expected.
func compare(t *testing.T, tokens string) {
	t.Helper()
	s, offsets := "", []int{}
	for i := range len(tokens) {
		offsets = append(offsets, len(s))
		word, found := spelled[tokens[i]]
		if !found {
			word = tokens[i : i+1]
		}
		s += word
		if i < len(tokens)-1 {
			s += " "
		}
	}
	at, whole := expected(tokens)
	if !whole {
		refused(t, s, append(offsets, len(s))[at], api.ErrSyntax)
		return
	}
	x, end, err := ttext.Parse(s)
	if end != len(s) || err != api.OK {
		t.Errorf("Parse(%q): %v, %d, %d", s, x, end, err)
		return
	}
	shown(t, x, written(x))
}

func TestShortTokenLists(t *testing.T) {
	letters := "%>|&!=<+-*mntax()ihe;"
	var fill func(tokens string, more int)
	fill = func(tokens string, more int) {
		compare(t, tokens)
		for i := range len(letters) {
			if more > 0 && !t.Failed() {
				fill(tokens+letters[i:i+1], more-1)
			}
		}
	}
	fill("", 4)
}

func TestRandomTokenLists(t *testing.T) {
	r := rand.New(rand.NewSource(32))
	letters := "%>|&!=<+-*mntax()ihe;"
	for range 20000 {
		tokens := "T" // a symbol that is left when there is enough is removed in the end
		for i := 0; i >= 0 && len(tokens) < 60; i = strings.IndexAny(tokens, "TYIZORASNCQUVPWX") {
			choices := grammar[tokens[i]]
			choice := choices[r.Intn(len(choices))]
			if r.Intn(3) == 0 {
				choice = choices[0]
			}
			tokens = tokens[:i] + choice + tokens[i+1:]
		}
		b := []byte(tokens)
		for range r.Intn(3) {
			b[r.Intn(len(b))] = letters[r.Intn(len(letters))]
		}
		compare(t, strings.Map(func(c rune) rune {
			if grammar[byte(c)] != nil {
				return -1
			}
			return c
		}, string(b)))
		if t.Failed() {
			return
		}
	}
}

func TestOffsetsDependOnNothingBehind(t *testing.T) {
	for s, at := range map[string]int{"a + ;": 4, "a b": 2, "(a ]": 3, "next a": 5, "if a else": 5, "a = b =": 6, "- a": 2, "!next(a) !": 9} {
		for _, tail := range []string{"", " ;", " a", ")", " then b else c", " -- a remark", " := 1"} {
			refused(t, s+tail, at, api.ErrSyntax)
		}
	}
}

func TestAnyText(t *testing.T) {
	r := rand.New(rand.NewSource(33))
	bits := []string{"a", "next", "(", ")", "if ", " then ", " else ", "!", "-", "->", "<->", "--", "\n", "7", "007", "999", "\x00", "\xff", "mod", " ", "U", "EX", "<", "=", ":=", "x_1", "|", "&", strings.Repeat("z", 25)}
	for range 20000 {
		s := ""
		for range r.Intn(12) {
			s += bits[r.Intn(len(bits))]
		}
		x, at, err := ttext.Parse(s)
		if err == api.OK {
			shown(t, x, written(x))
			continue
		}
		if at < 0 || at > len(s) || !terms.Same(x, api.Term{}) {
			t.Fatalf("Parse(%q): %v, %d, %d", s, x, at, err)
		}
	}
}

func TestAnyTokens(t *testing.T) {
	r := rand.New(rand.NewSource(34))
	texts := []string{"a", "next", "(", ")", "if", "then", "else", "!", "-", "->", "<->", "mod", "true", "", "=", "+", "&"}
	for range 20000 {
		var l []lexi.Token
		for range r.Intn(10) {
			l = append(l, lexi.Token{Kind: r.Intn(8) - 1, N: r.Intn(600) - 300, Text: texts[r.Intn(len(texts))], At: r.Intn(9) - 3})
		}
		i := r.Intn(14) - 2
		x, next, err := ttext.Take(l, i)
		switch {
		case i < 0 || i > len(l):
			took(t, l, i, api.Term{}, 0, api.ErrRange)
		case err != api.OK && (next < i || next > len(l) || !terms.Same(x, api.Term{})), err == api.OK && (next <= i || next > len(l) || terms.Check(x) != api.OK):
			t.Fatalf("Take(%v, %d): %v, %d, %d", l, i, x, next, err)
		case err == api.OK:
			took(t, l[:next], i, x, next, api.OK)
		}
	}
}
