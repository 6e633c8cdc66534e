package lexi_test

import (
	"math"
	"slices"
	"strings"
	"testing"

	"voussoir/api"
	"voussoir/lexi"
)

const keywords = "A AF AG AX E EF EG EX U bool def else fair false if init invar mod next spec then trans true var"

const operators = ":= -> <-> .. <= != = < & | ! ( ) [ ] ; : , + - *"

// The first of the names has MaxName bytes, as many as a name may have.
var names = []string{"abcdefghijklmnopqrstuvwx", "x", "Z9_", "AGx", "u", "EXX", "Bool", "true_", "a__0"}

func texts(l []lexi.Token) []string {
	var out []string
	for _, t := range l {
		out = append(out, t.Text)
	}
	return out
}

// one checks that s is one token.
func one(t *testing.T, s string, kind, n int) {
	t.Helper()
	want := lexi.Token{Kind: kind, N: n, Text: s}
	if l, at, e := lexi.All(s); e != api.OK || at != 0 || !slices.Equal(l, []lexi.Token{want}) {
		t.Errorf("All(%q) = %v, %d, %d", s, l, at, e)
	}
	want.At = 3
	if tok, next, e := lexi.Next("a  "+s+" b", 1); tok != want || next != 3+len(s) || e != api.OK {
		t.Errorf("Next of %q = %v, %d, %d", s, tok, next, e)
	}
}

func TestKinds(t *testing.T) {
	for _, s := range strings.Fields(keywords) {
		one(t, s, lexi.Word, 0)
	}
	for _, s := range strings.Fields(operators) {
		one(t, s, lexi.Sign, 0)
	}
	for _, s := range names {
		one(t, s, lexi.Name, 0)
	}
	for n, s := range map[int]string{0: "0", 1: "1", 9: "9", 10: "10", 99: "99", 100: "100", 254: "254", 255: "255"} {
		one(t, s, lexi.Num, n)
	}
	if lexi.Num != 1 || lexi.Name != 2 || lexi.Word != 3 || lexi.Sign != 4 || lexi.End != 5 {
		t.Error("kinds")
	}
}

func TestWordsAndNames(t *testing.T) {
	l := lexi.Words()
	if !slices.Equal(l, strings.Fields(keywords)) || !slices.IsSorted(l) {
		t.Error(l)
	}
	l[0] = "changed"
	if lexi.Words()[0] != "A" || lexi.Is("A") || !lexi.Is("changed") {
		t.Error("the keywords can be changed from outside")
	}
	for _, s := range names {
		if !lexi.Is(s) {
			t.Errorf("Is(%q)", s)
		}
	}
	bad := append(strings.Fields(keywords), strings.Fields(operators)...)
	bad = append(bad, "", " ", "1", "1a", "_", "_a", "a b", " a", "a ", "a-b", "a.b", "a\n", "a\x00", "ä", "aé", "a\xff", "@", "[", "`", "{", "a@", "a[", "a`", "a{", "a/", "a:",
		strings.Repeat("a", api.MaxName+1), strings.Repeat("a", 5000))
	for _, s := range bad {
		if lexi.Is(s) {
			t.Errorf("Is(%q)", s)
		}
	}
}

func TestTheLongestOperatorIsTaken(t *testing.T) {
	for s, want := range map[string]string{
		"<->":       "<->",
		"<=->":      "<= ->",
		"<==":       "<= =",
		"<-x":       "< - x",
		"<- >":      "",
		"!=!":       "!= !",
		"!==":       "!= =",
		":=:":       ":= :",
		"::=":       ": :=",
		"=<->":      "= <->",
		"0..3":      "0 .. 3",
		"x<->y..3":  "x <-> y .. 3",
		"a:0..255;": "a : 0 .. 255 ;",
		"->-":       "-> -",
		"-+-":       "- + -",
		"+--+":      "+",
		"<--> x":    "<",
		"[(AG!x)]":  "[ ( AG ! x ) ]",
		"x1y2":      "x1y2",
		"12ab":      "12 ab",
		"1.. 2":     "1 .. 2",
		"AX[a&b|c]": "AX [ a & b | c ]",
		"a,b*c":     "a , b * c",
		"x:=1 -- a": "x := 1",
	} {
		l, at, e := lexi.All(s)
		if want == "" {
			if e != api.ErrToken || at != 3 || len(l) != 0 {
				t.Errorf("All(%q) = %v, %d, %d", s, l, at, e)
			}
			continue
		}
		if e != api.OK || at != 0 || strings.Join(texts(l), " ") != want {
			t.Errorf("All(%q) = %v, %d, %d", s, l, at, e)
		}
	}
}

func TestWhiteSpace(t *testing.T) {
	for _, s := range []string{
		"", " ", "\t\n\r ", "--", "--\n", "-- a 01 $", "--a\n--b", "  --a\n\t--\n\r\n--", "---", "--->", "-- \r still", "--\xff\x00", "--a--b",
	} {
		if l, at, e := lexi.All(s); e != api.OK || at != 0 || len(l) != 0 {
			t.Errorf("All(%q) = %v, %d, %d", s, l, at, e)
		}
		want := lexi.Token{Kind: lexi.End, At: len(s)}
		if tok, next, e := lexi.Next(s, 0); tok != want || next != len(s) || e != api.OK {
			t.Errorf("Next(%q) = %v, %d, %d", s, tok, next, e)
		}
		text := s + "\n" + "x"
		want = lexi.Token{Kind: lexi.Name, Text: "x", At: len(text) - 1}
		if tok, next, e := lexi.Next(text, 0); tok != want || next != len(text) || e != api.OK {
			t.Errorf("Next(%q) = %v, %d, %d", text, tok, next, e)
		}
	}
	for _, s := range []string{"\v", "\f", "\x00", "\u00a0", "\u2003", "\x1f", "\x85"} {
		if l, at, e := lexi.All("a" + s); e != api.ErrToken || at != 1 || len(l) != 0 {
			t.Errorf("All of a and %q = %v, %d, %d", s, l, at, e)
		}
	}
}

func TestNextErrors(t *testing.T) {
	long := strings.Repeat("n", api.MaxName+1)
	cases := []struct {
		s        string
		at, next int
		e        api.Errno
	}{
		{"a", 2, 0, api.ErrRange}, {"a", -1, 0, api.ErrRange}, {"", 1, 0, api.ErrRange},
		{"$", math.MaxInt, 0, api.ErrRange}, {"$", math.MinInt, 0, api.ErrRange},
		{"a 01", 1, 2, api.ErrToken}, {"00", 0, 0, api.ErrToken}, {"0256", 0, 0, api.ErrToken}, {" 007", 0, 1, api.ErrToken},
		{"256", 0, 0, api.ErrRange}, {" 1000", 0, 1, api.ErrRange}, {"  99999999999999999999999", 0, 2, api.ErrRange},
		{"18446744073709551617", 0, 0, api.ErrRange},
		{long, 0, 0, api.ErrLong}, {"-- x\n " + long, 0, 6, api.ErrLong}, {"true" + long, 0, 0, api.ErrLong},
		{"a .b", 1, 2, api.ErrToken}, {">", 0, 0, api.ErrToken}, {" >=", 0, 1, api.ErrToken}, {"_a", 0, 0, api.ErrToken}, {"#", 0, 0, api.ErrToken},
		{" ä", 0, 1, api.ErrToken}, {"\xff", 0, 0, api.ErrToken}, {"{", 0, 0, api.ErrToken}, {"/", 0, 0, api.ErrToken}, {"@", 0, 0, api.ErrToken}, {"`", 0, 0, api.ErrToken},
		{"--\n\"", 0, 3, api.ErrToken},
	}
	for _, c := range cases {
		if tok, next, e := lexi.Next(c.s, c.at); tok != (lexi.Token{}) || next != c.next || e != c.e {
			t.Errorf("Next(%q, %d) = %v, %d, %d; want %d, %d", c.s, c.at, tok, next, e, c.next, c.e)
		}
	}
}

func TestNextFromTheMiddle(t *testing.T) {
	for at, want := range map[int]string{0: "abc", 1: "bc", 2: "c", 3: "->", 4: "", 5: "12", 6: "2", 7: "", 8: "-", 9: "x"} {
		tok, next, e := lexi.Next("abc->12--x", at)
		switch {
		case at == 4 && (e != api.ErrToken || next != 4):
			t.Errorf("from %d: %v, %d, %d", at, tok, next, e)
		case at == 7 && (tok != lexi.Token{Kind: lexi.End, At: 10} || next != 10 || e != api.OK):
			t.Errorf("from %d: %v, %d, %d", at, tok, next, e)
		case want != "" && (tok.Text != want || tok.At != at || next != at+len(want) || e != api.OK):
			t.Errorf("from %d: %v, %d, %d", at, tok, next, e)
		}
	}
}

func TestAllErrors(t *testing.T) {
	cases := []struct {
		s  string
		at int
		e  api.Errno
	}{
		{"a 01", 2, api.ErrToken}, {"256", 0, api.ErrRange}, {"a b 256 $", 4, api.ErrRange}, {"a $ 256", 2, api.ErrToken},
		{"x " + strings.Repeat("y", 25), 2, api.ErrLong},
		{strings.Repeat(" ", api.MaxText+1), 0, api.ErrLong},
		{"$" + strings.Repeat(" ", api.MaxText), 0, api.ErrLong},
		{strings.Repeat(" ", api.MaxText-1) + "$", api.MaxText - 1, api.ErrToken},
	}
	for _, c := range cases {
		if l, at, e := lexi.All(c.s); len(l) != 0 || at != c.at || e != c.e {
			t.Errorf("All(%.20q) = %v, %d, %d; want %d, %d", c.s, l, at, e, c.at, c.e)
		}
	}
	longest := strings.Repeat("a ", api.MaxText/2)
	if l, at, e := lexi.All(longest); len(l) != api.MaxText/2 || at != 0 || e != api.OK {
		t.Error(len(l), at, e)
	}
	if tok, next, e := lexi.Next(longest+longest+"b", 2*api.MaxText); tok.Text != "b" || next != 2*api.MaxText+1 || e != api.OK {
		t.Error("Next has no limit of length", tok, next, e)
	}
}

const sample = "var x:0..7; -- the counter\ninit x=0;\r\nnext x:=if x<7 then x+1 else 0;\n\tspec up: AG[x!=7]->A[true U x<=2&y|!z]; z<->x-1*2 mod 3,(--\n)"

func TestOffsets(t *testing.T) {
	l, at, e := lexi.All(sample)
	if e != api.OK || at != 0 || len(l) == 0 {
		t.Fatal(l, at, e)
	}
	end := 0
	for _, tok := range l {
		if !strings.HasPrefix(sample[tok.At:], tok.Text) || tok.At < end {
			t.Errorf("token %v", tok)
		}
		if between, _, e := lexi.All(sample[end:tok.At]); len(between) != 0 || e != api.OK {
			t.Errorf("between tokens: %q", sample[end:tok.At])
		}
		again, next, e := lexi.Next(sample, tok.At)
		if again != tok || next != tok.At+len(tok.Text) || e != api.OK {
			t.Errorf("Next at %d: %v, %d, %d", tok.At, again, next, e)
		}
		end = next
	}
	if rest, _, e := lexi.All(sample[end:]); len(rest) != 0 || e != api.OK {
		t.Errorf("after the tokens: %q", sample[end:])
	}
}

func TestTokensWrittenAgain(t *testing.T) {
	l, _, _ := lexi.All(sample)
	for _, between := range []string{" ", "\t", "\n", "\r", " --\n", "\n-- 01 $\n\t"} {
		again, _, e := lexi.All(strings.Join(texts(l), between))
		if e != api.OK || len(again) != len(l) {
			t.Fatalf("with %q between: %d tokens, %d", between, len(again), e)
		}
		for i, tok := range again {
			tok.At = l[i].At
			if tok != l[i] {
				t.Errorf("with %q between: %v; want %v", between, tok, l[i])
			}
		}
	}
}
