package ftext_test

import (
	"math/rand"
	"slices"
	"strings"
	"testing"

	"voussoir/api"
	"voussoir/forms"
	"voussoir/ftext"
	"voussoir/lexi"
)

// rules are the rules of the grammar; each has the next one as an alternative.
var rules = []string{"form", "for", "fand", "funit"}

// own tells for each operator how it is written, with # for each operand, its rule, and those of its operands.
var own = map[int][]string{
	api.FImp: {"# -> #", "form", "for", "form"}, api.FOr: {"# | #", "for", "for", "fand"}, api.FAnd: {"# & #", "fand", "fand", "funit"}, api.FNot: {"!#", "funit", "funit"},
	api.FEX: {"EX #", "funit", "funit"}, api.FEF: {"EF #", "funit", "funit"}, api.FEG: {"EG #", "funit", "funit"}, api.FAX: {"AX #", "funit", "funit"}, api.FAF: {"AF #", "funit", "funit"}, api.FAG: {"AG #", "funit", "funit"},
	api.FEU: {"E[# U #]", "funit", "form", "form"}, api.FAU: {"A[# U #]", "funit", "form", "form"}, api.FTerm: {"[a]", "funit"},
}

// written returns the text that Show promises for f, in which all terms are the name a. If all is true, all parentheses that there can be are there.
func written(f api.Form, all bool) string {
	s, l := "", own[f.Op]
	for i, piece := range strings.Split(l[0], "#") {
		s += piece
		if i == len(f.Kids) {
			break
		}
		kid := f.Kids[i]
		text := written(kid, all)
		if !all && slices.Index(rules, own[kid.Op][1]) < slices.Index(rules, l[i+2]) {
			text = "(" + text + ")"
		}
		s += text
	}
	if all {
		return "( " + s + "\n)"
	}
	return s
}

// random returns a formula of that depth or less.
func random(r *rand.Rand, depth int) api.Form {
	if depth <= 1 || r.Intn(6) == 0 {
		return a
	}
	k := api.FNot + r.Intn(12)
	if r.Intn(2) == 0 {
		k = api.FAnd + r.Intn(3)
	}
	f := op(k)
	for range len(own[k]) - 2 {
		f.Kids = append(f.Kids, random(r, depth-1))
	}
	return f
}

func TestRandomFormulas(t *testing.T) {
	r := rand.New(rand.NewSource(33))
	for range 20000 {
		f := random(r, 1+r.Intn(7))
		shown(t, f, written(f, false))
		parsed(t, written(f, true), f)
		if t.Failed() {
			return
		}
	}
}

// grammar tells for each symbol of a stack by what it can be replaced. Each token is one byte: > is ->, X is EX, G is AG, a is a name.
var grammar = map[byte][]string{
	'F': {"OY"}, 'Y': {"", ">F"}, 'O': {"NR"}, 'R': {"", "|NR"}, 'N': {"QS"}, 'S': {"", "&QS"},
	'Q': {"!Q", "XQ", "GQ", "E[FUF]", "A[FUF]", "(F)", "[T]"},
	'T': {"HJ"}, 'J': {"", ">T"}, 'H': {"KL"}, 'L': {"", "|KL"}, 'K': {"MP"}, 'P': {"", "&MP"}, 'M': {"!M", "CZ"}, 'Z': {"", "+CZ"}, 'C': {"a", "(T)"},
}

var spelled = map[byte]string{'>': "->", 'X': "EX", 'G': "AG"}

// expand adds the stacks to which a stack leads, whose tops, at their beginnings, are tokens.
func expand(stack string, stacks map[string]bool) {
	if stack == "" || grammar[stack[0]] == nil {
		stacks[stack] = true
		return
	}
	for _, instead := range grammar[stack[0]] {
		expand(instead+stack[1:], stacks)
	}
}

// expected returns the index of the first token that no formula goes on with, or whole if the tokens are a formula.
func expected(tokens string) (at int, whole bool) {
	stacks := map[string]bool{}
	expand("F", stacks)
	for i := range len(tokens) {
		after := map[string]bool{}
		for stack := range stacks {
			if stack != "" && stack[0] == tokens[i] {
				expand(stack[1:], after)
			}
		}
		if len(after) == 0 {
			return i, false
		}
		stacks = after
	}
	return len(tokens), stacks[""]
}

// compare checks Parse of the tokens against expected.
func compare(t *testing.T, tokens string) {
	t.Helper()
	s, offsets := "", []int{}
	for i := range len(tokens) {
		offsets = append(offsets, len(s))
		word, found := spelled[tokens[i]]
		if !found {
			word = tokens[i : i+1]
		}
		s += word
		if i < len(tokens)-1 {
			s += " "
		}
	}
	at, whole := expected(tokens)
	if !whole {
		refused(t, s, append(offsets, len(s))[at], api.ErrSyntax)
		return
	}
	f, end, err := ftext.Parse(s)
	if end != len(s) || err != api.OK {
		t.Errorf("Parse(%q): %d, %d", s, end, err)
		return
	}
	text, err := ftext.Show(f)
	if err != api.OK {
		t.Errorf("Show of the formula of %q: %d", s, err)
	}
	parsed(t, text, f)
}

const letters = ">|&!XGEA[]()Ua+;"

func TestShortTokenLists(t *testing.T) {
	var fill func(tokens string, more int)
	fill = func(tokens string, more int) {
		compare(t, tokens)
		for i := range len(letters) {
			if more > 0 && !t.Failed() {
				fill(tokens+letters[i:i+1], more-1)
			}
		}
	}
	fill("", 4)
}

func TestRandomTokenLists(t *testing.T) {
	r := rand.New(rand.NewSource(34))
	symbols := "FYORNSQTJHLKPMZC"
	for range 20000 {
		tokens := "F" // a symbol that is left when there is enough is removed in the end
		for i := 0; i >= 0 && len(tokens) < 60; i = strings.IndexAny(tokens, symbols) {
			choices := grammar[tokens[i]]
			tokens = tokens[:i] + choices[r.Intn(len(choices))] + tokens[i+1:]
		}
		b := []byte(tokens)
		for range r.Intn(3) {
			b[r.Intn(len(b))] = letters[r.Intn(len(letters))]
		}
		compare(t, strings.Map(func(c rune) rune {
			if strings.ContainsRune(symbols, c) {
				return -1
			}
			return c
		}, string(b)))
		if t.Failed() {
			return
		}
	}
}

func TestAnyText(t *testing.T) {
	r := rand.New(rand.NewSource(35))
	bits := []string{"[a]", "[", "]", "(", ")", "EX ", "E[", " U ", "A", "!", "->", "--", "\n", "7", "007", "999", "\x00", "next(a)", "[b = 3]", " ", "&", "|", "AG", "if", strings.Repeat("z", 25)}
	for range 20000 {
		s := ""
		for range r.Intn(12) {
			s += bits[r.Intn(len(bits))]
		}
		f, at, err := ftext.Parse(s)
		if err == api.OK {
			text, fault := ftext.Show(f)
			if fault != api.OK || at != len(s) {
				t.Fatalf("Parse(%q): %d, %d", s, at, fault)
			}
			shown(t, f, text)
			continue
		}
		if at < 0 || at > len(s) || !forms.Same(f, api.Form{}) {
			t.Fatalf("Parse(%q): %d, %d", s, at, err)
		}
	}
}

func TestAnyTokens(t *testing.T) {
	r := rand.New(rand.NewSource(36))
	texts := []string{"a", "[", "]", "(", ")", "EX", "E", "A", "U", "!", "->", "&", "|", "", "="}
	for range 20000 {
		var l []lexi.Token
		for range r.Intn(10) {
			l = append(l, lexi.Token{Kind: r.Intn(8) - 1, N: r.Intn(600) - 300, Text: texts[r.Intn(len(texts))], At: r.Intn(9) - 3})
		}
		i := r.Intn(14) - 2
		f, next, err := ftext.Take(l, i)
		switch {
		case i < 0 || i > len(l):
			took(t, l, i, api.Form{}, 0, api.ErrRange)
		case err != api.OK && (next < i || next > len(l) || !forms.Same(f, api.Form{})), err == api.OK && (next <= i || next > len(l) || forms.Check(f) != api.OK):
			t.Fatalf("Take(%v, %d): %d, %d", l, i, next, err)
		case err == api.OK:
			took(t, l[:next], i, f, next, api.OK)
		}
	}
}
