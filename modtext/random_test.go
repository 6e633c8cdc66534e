package modtext_test

import (
	"math/rand"
	"slices"
	"strings"
	"testing"

	"voussoir/api"
	"voussoir/modtext"
)

// text returns a declaration with some white space in it.
func text(r *rand.Rand) string {
	pick := func(l ...string) string { return l[r.Intn(len(l))] }
	term := func() string {
		return pick("a", "true", "x + 1", "! b", "if a then 1 else - 2", "(a & b) | c", "next(a) = a", "a mod 3 <= 2", "((a))", "a <-> b -> c")
	}
	form := func() string {
		return pick("[a]", "EF [a = 1]", "! EX [b]", "E[[a] U [b]]", "[a] -> [b] & [c]", "AG (EF [true])", "A [ [a] | [b] U [c] ]")
	}
	name := pick("a", "b", "c1", "long_Name")
	words := []string{}
	switch r.Intn(9) {
	case 0:
		words = []string{"var", name, ":", "bool"}
	case 1:
		words = []string{"var", name, ":", pick("0", "-1", "- 255", "7"), "..", pick("1", "- 3", "255")}
	case 2:
		words = []string{"def", name, ":=", term()}
	case 3:
		words = []string{"init", term()}
	case 4:
		words = []string{"invar", term()}
	case 5:
		words = []string{"next", name, ":=", term()}
	case 6:
		words = []string{"trans", term()}
	case 7:
		words = []string{"fair", term()}
	default:
		words = []string{"spec", name, ":", form()}
	}
	blank := pick(" ", "  ", "\n", "\t", " -- b ;\n")
	return strings.Join(append(words, ";"), blank)
}

func model(r *rand.Rand) string {
	var l []string
	for range r.Intn(12) {
		l = append(l, text(r))
	}
	return strings.Join(l, []string{"", " ", "\n"}[r.Intn(3)])
}

// join returns the declarations of a and b.
func join(a, b api.Module) api.Module {
	return api.Module{
		Vars: slices.Concat(a.Vars, b.Vars), Defs: slices.Concat(a.Defs, b.Defs), Init: slices.Concat(a.Init, b.Init), Invar: slices.Concat(a.Invar, b.Invar),
		Next: slices.Concat(a.Next, b.Next), Trans: slices.Concat(a.Trans, b.Trans), Fair: slices.Concat(a.Fair, b.Fair), Specs: slices.Concat(a.Specs, b.Specs),
	}
}

func TestRandomModels(t *testing.T) {
	r := rand.New(rand.NewSource(34))
	for range 5000 {
		s, other := model(r), model(r)
		m, at, e := modtext.Parse(s)
		if e != api.OK || at != len(s) {
			t.Fatal(s, at, e)
		}
		n, _, e := modtext.Parse(other)
		if e != api.OK {
			t.Fatal(other, e)
		}
		shownAgain(t, m)
		parsed(t, s+"\n"+other, join(m, n))
		parsed(t, other+s, join(n, m))
	}
}

// shownAgain checks that Show succeeds for a module that was parsed, and that its string stands for the module.
func shownAgain(t *testing.T, m api.Module) {
	t.Helper()
	s, e := modtext.Show(m)
	if e != api.OK {
		t.Fatal(e)
	}
	shown(t, m, s)
	lines := strings.Split(s, "\n")
	if many := len(m.Vars) + len(m.Defs) + len(m.Init) + len(m.Invar) + len(m.Next) + len(m.Trans) + len(m.Fair) + len(m.Specs); len(lines) != many+1 || lines[many] != "" {
		t.Fatalf("%d declarations: %q", many, s)
	}
}

// A model with some of its tokens changed is parsed, or refused at an offset up to which it can be continued.
func TestDamagedModels(t *testing.T) {
	r := rand.New(rand.NewSource(35))
	signs := []string{"a", "1", "-", "..", ":", ":=", ";", "(", ")", "[", "]", "bool", "true", "next", "var", "def", "init", "invar", "trans", "fair", "spec", "&", "=", "EF", "U", "if"}
	right := 0
	for range 30000 {
		words := strings.Fields(strings.ReplaceAll(model(r), "-- b ;", ""))
		if len(words) == 0 {
			continue
		}
		for range 1 + r.Intn(2) {
			i := r.Intn(len(words))
			switch r.Intn(3) {
			case 0:
				words[i] = signs[r.Intn(len(signs))]
			case 1:
				words = slices.Insert(words, i, signs[r.Intn(len(signs))])
			default:
				words[i] = ""
			}
		}
		s := strings.Join(words, " ")
		m, at, e := modtext.Parse(s)
		switch {
		case e == api.OK:
			right++
			shownAgain(t, m)
		case !same(m, api.Module{}) || at < 0 || at > len(s):
			t.Fatal(s, at, e)
		case e == api.ErrSyntax:
			// What stands before the offset is not at fault: without the rest, the fault is at its end.
			cut := s[:at]
			if _, place, e := modtext.Parse(cut); e == api.OK && strings.TrimSpace(cut) != "" && !strings.HasSuffix(strings.TrimSpace(cut), ";") || e == api.ErrSyntax && place != len(cut) {
				t.Fatal(s, at, place, e)
			}
		case e != api.ErrPlace && e != api.ErrToken && e != api.ErrRange:
			t.Fatal(s, at, e)
		}
	}
	if right < 300 {
		t.Error(right)
	}
}
