package ptext_test

import (
	"math"
	"math/rand"
	"slices"
	"strings"
	"testing"

	"voussoir/api"
	"voussoir/prop"
	"voussoir/ptext"
)

var yes, no = api.Expr{Op: api.ETrue}, api.Expr{Op: api.EFalse}

func node(op int, kids ...api.Expr) api.Expr {
	return api.Expr{Op: op, Kids: kids}
}

// shown checks that s and e stand for each other.
func shown(t *testing.T, e api.Expr, s string) {
	t.Helper()
	if got, err := ptext.Show(e); got != s || err != api.OK {
		t.Errorf("Show: %q, %d; want %q", got, err, s)
	}
	if got, at, err := ptext.Parse(s); !prop.Same(got, e) || at != len(s) || err != api.OK {
		t.Errorf("Parse(%q): %v, %d, %d; want %v", s, got, at, err, e)
	}
}

// refused checks that Parse refuses s.
func refused(t *testing.T, s string, at int, err api.Errno) {
	t.Helper()
	if got, place, fault := ptext.Parse(s); !prop.Same(got, api.Expr{}) || place != at || fault != err {
		t.Errorf("Parse(%q): %v, %d, %d; want %d, %d", s[:min(len(s), 80)], got, place, fault, at, err)
	}
}

func TestTheExamples(t *testing.T) {
	shown(t, node(api.EIte, prop.Var(0), node(api.ENot, prop.Var(12)), yes), "(? v0 (! v12) true)")
	refused(t, "(& v01)", 5, api.ErrForm)
	refused(t, "(! v0 v1)", 0, api.ErrForm)
}

func TestEveryOperator(t *testing.T) {
	a, b, c := prop.Var(0), prop.Var(9), prop.Var(63)
	shown(t, yes, "true")
	shown(t, no, "false")
	shown(t, a, "v0")
	shown(t, b, "v9")
	shown(t, prop.Var(10), "v10")
	shown(t, c, "v63")
	shown(t, node(api.ENot, a), "(! v0)")
	for op, symbol := range map[int]string{api.EAnd: "&", api.EOr: "|", api.EXor: "^"} {
		shown(t, node(op), "("+symbol+")")
		shown(t, node(op, a), "("+symbol+" v0)")
		shown(t, node(op, no, yes, c), "("+symbol+" false true v63)")
		shown(t, node(op, slices.Repeat([]api.Expr{c}, 64)...), "("+symbol+strings.Repeat(" v63", 64)+")")
		refused(t, "("+symbol+strings.Repeat(" v63", 65)+")", 0, api.ErrForm)
	}
	shown(t, node(api.EImp, a, b), "(> v0 v9)")
	shown(t, node(api.EIff, yes, b), "(= true v9)")
	shown(t, node(api.EIte, node(api.EAnd), b, node(api.EOr, c)), "(? (&) v9 (| v63))")
}

func TestWrongExpressions(t *testing.T) {
	for _, s := range []string{"(!)", "(! v0 v0)", "(>)", "(> v0)", "(> v0 v0 v0)", "(=)", "(= v0)", "(= v0 v0 v0)", "(? v0 v0)", "(? v0 v0 v0 v0)", "(& (!))", "(& (!) v64)"} {
		refused(t, s, 0, api.ErrForm)
	}
	for _, s := range []string{"v64", "v99", "v100", "v999", "v1000", "v9999", "(| v64)", "(! (& true v65))", "(& v64 (!))"} {
		refused(t, s, 0, api.ErrVar)
	}
	refused(t, "(& v64", 6, api.ErrForm)
	refused(t, "(! v0 v1", 8, api.ErrForm)
	for _, x := range []struct {
		e   api.Expr
		err api.Errno
	}{
		{api.Expr{}, api.ErrKind}, {node(11), api.ErrKind}, {node(-1), api.ErrKind}, {node(math.MinInt), api.ErrKind}, {node(math.MaxInt), api.ErrKind},
		{prop.Var(64), api.ErrVar}, {prop.Var(-1), api.ErrVar}, {api.Expr{Op: api.ETrue, Var: 1}, api.ErrVar},
		{node(api.ENot), api.ErrForm}, {node(api.EAnd, slices.Repeat([]api.Expr{no}, 65)...), api.ErrForm}, {node(api.EAnd, yes, node(api.EIte, no)), api.ErrForm},
		{nested(64), api.ErrDeep}, {full(4097), api.ErrLong},
	} {
		if s, err := ptext.Show(x.e); s != "" || err != x.err {
			t.Errorf("Show of %d: %q, %d; want %d", x.e.Op, s, err, x.err)
		}
	}
}

// nested returns a variable below many negations.
func nested(many int) api.Expr {
	e := prop.Var(7)
	for range many {
		e = node(api.ENot, e)
	}
	return e
}

// full returns an expression of that many nodes, at most 1 + 64 * 65.
func full(nodes int) api.Expr {
	e := node(api.EAnd)
	for rest := nodes - 1; rest > 0; rest -= 65 {
		e.Kids = append(e.Kids, node(api.EOr, slices.Repeat([]api.Expr{no}, min(rest, 65)-1)...))
	}
	return e
}

func TestDepthAndSize(t *testing.T) {
	text := func(many int) string {
		return strings.Repeat("(! ", many) + "v7" + strings.Repeat(")", many)
	}
	shown(t, nested(63), text(63))
	refused(t, text(64), 0, api.ErrDeep)
	refused(t, text(16383), 0, api.ErrDeep)
	refused(t, text(16383)+" ", 65534, api.ErrForm)
	refused(t, strings.Repeat("(& ", 21845), 65535, api.ErrForm)
	refused(t, strings.Repeat("(& ", 21845)+")", 65535, api.ErrForm)
	refused(t, strings.Repeat("(& ", 21845)+"(", 65536, api.ErrForm)
	s, err := ptext.Show(full(4096))
	if want := "(&" + strings.Repeat(" (|"+strings.Repeat(" false", 64)+")", 63) + ")"; s != want || err != api.OK {
		t.Errorf("Show of 4096 nodes: %d bytes, %d", len(s), err)
	}
	shown(t, full(4096), s)
	refused(t, s[:len(s)-1]+" true)", 0, api.ErrLong)
	refused(t, s[:len(s)-1]+" v64)", 0, api.ErrVar)
}

func TestLongTexts(t *testing.T) {
	for _, many := range []int{api.MaxText + 1, api.MaxText + 2, 3 * api.MaxText} {
		refused(t, strings.Repeat("v", many), 0, api.ErrLong)
		refused(t, "v64"+strings.Repeat(" ", many-3), 0, api.ErrLong)
		refused(t, "true"+strings.Repeat(")", many-4), 0, api.ErrLong)
	}
	refused(t, "v1"+strings.Repeat(" ", api.MaxText-2), 2, api.ErrForm)
	refused(t, "(&"+strings.Repeat(" v1", 21844)+" ", api.MaxText-1, api.ErrForm)
	refused(t, "(&"+strings.Repeat(" v1", 21844)+"  ", api.MaxText-1, api.ErrForm)
	refused(t, "(| "+strings.Repeat("v12 ", 16383)+"v", api.MaxText, api.ErrForm)
	refused(t, "(|"+strings.Repeat(" v1", 21844)+")", 0, api.ErrForm)
	refused(t, "(|"+strings.Repeat(" v1", 21843)+" v12)", 0, api.ErrForm) // this one has MaxText bytes
}

// after returns what a text of the syntax may go on with, one byte at a time: what is on the stack, the top at its end, has to be read yet. A text stops to be a prefix where it returns false.
//
//	e: an expression; l: operands and a closing parenthesis; o: an operator; d: a first digit; 1 to 3: up to that many digits; other bytes: themselves
func after(stack string, c byte) (rest string, ok bool) {
	if stack == "" {
		return "", false
	}
	top, below := stack[len(stack)-1], stack[:len(stack)-1]
	digit := c >= '0' && c <= '9'
	switch top {
	case 'e':
		next, found := map[byte]string{'t': "EUR", 'f': "ESLA", 'v': "d", '(': "lo"}[c]
		return below + next, found
	case 'l':
		switch c {
		case ' ':
			return below + "le", true
		case ')':
			return below, true
		}
		return "", false
	case 'o':
		return below, strings.IndexByte("!&|^>=?", c) >= 0
	case 'd':
		if c == '0' {
			return below, true
		}
		return below + "3", digit
	case '1', '2', '3':
		if digit {
			return below + map[byte]string{'1': "", '2': "1", '3': "2"}[top], true
		}
		return after(below, c)
	}
	return below, c == top+'a'-'A'
}

// expected returns the offset at which s stops to be a prefix of a text of the syntax, or whole if s is such a text.
func expected(s string) (at int, whole bool) {
	stack, ok := "e", true
	for i := range len(s) {
		if stack, ok = after(stack, s[i]); !ok {
			return i, false
		}
	}
	return len(s), strings.Trim(stack, "123") == ""
}

// compare checks Parse of s against expected.
func compare(t *testing.T, s string) {
	t.Helper()
	want, whole := expected(s)
	e, at, err := ptext.Parse(s)
	switch {
	case !whole:
		if at != want || err != api.ErrForm || !prop.Same(e, api.Expr{}) {
			t.Fatalf("Parse(%q): %v, %d, %d; want %d", s, e, at, err, want)
		}
	case err == api.OK:
		if text, err := ptext.Show(e); text != s || err != api.OK || at != len(s) || prop.Check(e) != api.OK {
			t.Fatalf("Parse(%q): %v, %d; shown as %q, %d", s, e, at, text, err)
		}
	default:
		if at != 0 || !prop.Same(e, api.Expr{}) {
			t.Fatalf("Parse(%q): %v, %d, %d; want 0", s, e, at, err)
		}
	}
}

func TestShortTexts(t *testing.T) {
	letters := "(&! v01)t"
	for length := range 7 {
		text := make([]byte, length)
		var fill func(i int)
		fill = func(i int) {
			if i == length {
				compare(t, string(text))
				return
			}
			for _, c := range []byte(letters) {
				text[i] = c
				fill(i + 1)
			}
		}
		fill(0)
	}
}

func TestEveryPrefixAndByte(t *testing.T) {
	whole := "(? (| v0 v63 (^)) (> false (! true)) (= v9 (& v10 v5)))"
	if e, at, err := ptext.Parse(whole); err != api.OK || at != len(whole) || e.Op != api.EIte {
		t.Fatal(e, at, err)
	}
	for i := range len(whole) {
		refused(t, whole[:i], i, api.ErrForm)
		for c := range 256 {
			for _, rest := range []string{"", " ", ")", whole[i:], whole[i+1:]} {
				compare(t, whole[:i]+string([]byte{byte(c)})+rest)
			}
		}
	}
	for c := range 256 {
		refused(t, whole+string([]byte{byte(c)}), len(whole), api.ErrForm)
	}
}

func TestNumbers(t *testing.T) {
	for s, at := range map[string]int{"v": 1, "v ": 1, "v00": 2, "v01": 2, "v012": 2, "v0000": 2, "v12345": 5, "v99999": 5, "v-1": 1, "v+1": 1, "v1a": 2, "V1": 0, "v1.": 2, "v\x00": 1, "v1\x00": 2, "\x00": 0, "v\xd9\xa1": 1} {
		refused(t, s, at, api.ErrForm)
	}
	for s, at := range map[string]int{"(& v)": 4, "(& v00)": 5, "(& v12345)": 8, "(& v1v2)": 5, "(& v1  v2)": 6, "(&v1)": 2, "( & v1)": 1, "(& v1 )": 6, "(&& v1)": 2, "()": 1, " v1": 0, "(& v1))": 6, "v1 v2": 2, "True": 0, "t": 1, "truetrue": 4, "falsy": 4, "fals": 4, "(& (": 4, "(-> v1)": 1, "(& v1\tv2)": 5} {
		refused(t, s, at, api.ErrForm)
	}
}

// random returns an expression of that depth or less, whose operators have right numbers of Kids.
func random(r *rand.Rand, depth int) api.Expr {
	if depth <= 1 || r.Intn(4) == 0 {
		return []api.Expr{yes, no, prop.Var(r.Intn(64)), prop.Var(r.Intn(12))}[r.Intn(4)]
	}
	op := api.ENot + r.Intn(7)
	many := map[int]int{api.ENot: 1, api.EImp: 2, api.EIff: 2, api.EIte: 3}[op]
	if many == 0 {
		many = r.Intn(5)
	}
	e := node(op)
	for range many {
		e.Kids = append(e.Kids, random(r, depth-1))
	}
	return e
}

func TestRoundTrips(t *testing.T) {
	r := rand.New(rand.NewSource(7))
	for range 3000 {
		e := random(r, 1+r.Intn(7))
		s, err := ptext.Show(e)
		if err != api.OK {
			t.Fatalf("Show of %v: %d", e, err)
		}
		shown(t, e, s)
		if want, whole := expected(s); want != len(s) || !whole {
			t.Fatalf("%q is not in the syntax from %d on", s, want)
		}
		compare(t, mutated(r, s))
	}
}

// mutated returns s with a few bytes changed, inserted or removed.
func mutated(r *rand.Rand, s string) string {
	b := []byte(s)
	for range 1 + r.Intn(3) {
		i, c := r.Intn(len(b)), "()v019 !&|^>=?truefals"[r.Intn(22)]
		switch r.Intn(3) {
		case 0:
			b[i] = c
		case 1:
			b = slices.Insert(b, i, c)
		case 2:
			if len(b) > 1 {
				b = slices.Delete(b, i, i+1)
			}
		}
	}
	return string(b)
}

func TestOffsetsDependOnNothingBehind(t *testing.T) {
	r := rand.New(rand.NewSource(8))
	for range 3000 {
		s := mutated(r, "(? (| v0 v63 (^)) (> false (! true)) (= v9 (& v10 v5)))")
		_, at, err := ptext.Parse(s)
		if err != api.ErrForm || at == 0 || at == len(s) {
			continue
		}
		for _, tail := range []string{"", ")", " v1)", s, "\xff"} {
			refused(t, s[:at+1]+tail, at, api.ErrForm)
		}
	}
}
