package dump_test

import (
	"math/rand"
	"slices"
	"strings"
	"testing"

	"voussoir/api"
	"voussoir/dump"
)

func TestText(t *testing.T) {
	for _, x := range []struct {
		rows  []api.Row
		roots []int
		want  string
	}{
		{nil, nil, "roots\n"},
		{nil, []int{1, 0, 0}, "roots 1 0 0\n"},
		{[]api.Row{row(63, 1, 0)}, nil, "63 1 0\nroots\n"},
		{[]api.Row{row(10, 0, 1), row(10, 3, 3)}, []int{5, 1, 2}, "10 0 1\n10 3 3\nroots 5 1 2\n"},
	} {
		if s, e := dump.Text(x.rows, x.roots); s != x.want || e != api.OK {
			t.Errorf("Text: %q, %d; want %q", s, e, x.want)
		}
		if rows, roots, e := dump.Read(x.want); !slices.Equal(rows, x.rows) || !slices.Equal(roots, x.roots) || e != api.OK {
			t.Errorf("Read(%q): %v, %v, %d", x.want, rows, roots, e)
		}
	}
}

func TestReadRefuses(t *testing.T) {
	for _, s := range []string{
		"", "\n", "roots", "roots \n", " roots\n", "roots\n\n", "\nroots\n", "roots\nroots\n", "Roots\n", "root\n", "rootsroots\n", "roots1\n", "roots\r\n",
		"roots 2\n", "roots -1\n", "roots -0\n", "roots +1\n", "roots 01\n", "roots  1\n", "roots\t1\n", "roots 1 \n", "roots 1", "roots 1\n ", "roots x\n", "roots 0x1\n", "roots 1,0\n",
		"roots 99999999999999999999999999\n", "roots 1 0 00\n",
		"1 1 0\n", "1 1 0", "1 1 0\nroots", "1 1 0roots\n", "1 1\nroots\n", "1 1 0 0\nroots\n", "1\nroots\n", "1 1 0 roots\n", "1 1 0\n\nroots\n", "roots\n1 1 0\n",
		"64 1 0\nroots\n", "-1 1 0\nroots\n", "1 2 0\nroots\n", "1 0 3\nroots\n", "1 -1 0\nroots\n", "1 1 0\nroots 4\n", "1 1 0\n2 4 0\nroots\n", "01 1 0\nroots\n", "1  1 0\nroots\n", " 1 1 0\nroots\n", "1 1 0 \nroots\n", "1 1 a\nroots\n", "1 1 \nroots\n", "1 1  0\nroots\n",
		"99999999999999999999999999 1 0\nroots\n",
		"1 1 0\nroots 2\nroots 2\n", "1 1 0\nroots 2\n2", "0 1 0\r\nroots\n",
	} {
		if rows, roots, e := dump.Read(s); rows != nil || roots != nil || e != api.ErrForm {
			t.Errorf("Read(%q): %v, %v, %d", s, rows, roots, e)
		}
	}
}

func TestLengthOfText(t *testing.T) {
	fits := "roots" + strings.Repeat(" 1", (api.MaxText-6)/2) + "\n"
	if _, roots, e := dump.Read(fits); len(fits) != api.MaxText || len(roots) != (api.MaxText-6)/2 || e != api.OK {
		t.Error(len(fits), len(roots), e)
	}
	for _, s := range []string{strings.Repeat("x", api.MaxText+1), "roots" + strings.Repeat(" 1", api.MaxText/2) + "\n"} {
		if rows, roots, e := dump.Read(s); rows != nil || roots != nil || e != api.ErrLong {
			t.Error(len(rows), len(roots), e)
		}
	}
	if _, _, e := dump.Read(strings.Repeat("x", api.MaxText)); e != api.ErrForm {
		t.Error(e)
	}
	rows, roots := distinct(api.MaxRows)
	s, e := dump.Text(rows[:3000], roots[:3000])
	if got, to, e2 := dump.Read(s); len(s) > api.MaxText || !slices.Equal(got, rows[:3000]) || !slices.Equal(to, roots[:3000]) || e != api.OK || e2 != api.OK {
		t.Error(len(s), len(got), len(to), e, e2)
	}
	s, e = dump.Text(rows, slices.Concat(roots, roots, roots))
	if _, _, e2 := dump.Read(s); len(s) <= api.MaxText || e != api.OK || e2 != api.ErrLong {
		t.Error(len(s), e, e2)
	}
	short := strings.Repeat("0 1 0\n", api.MaxRows)
	if rows, _, e := dump.Read(short + "roots\n"); len(rows) != api.MaxRows || e != api.OK {
		t.Error(len(rows), e)
	}
	if rows, _, e := dump.Read(short + "0 1 0\nroots\n"); rows != nil || e != api.ErrForm {
		t.Error(len(rows), e)
	}
}

// Whatever Read accepts is the Text of what it returns.
func TestReadOfRandomTexts(t *testing.T) {
	r := rand.New(rand.NewSource(29))
	pieces := []string{"0", "1", "2", "3", "4", "10", "63", "64", " ", " ", " ", " ", "\n", "\n", "roots", "roots ", "roots\n", "-", "0 1 0\n", "1 1 2\n", "x"}
	right := 0
	for range 200000 {
		s := ""
		for range r.Intn(8) {
			s += pieces[r.Intn(len(pieces))]
		}
		if r.Intn(2) == 0 {
			s += "\n"
		}
		rows, roots, e := dump.Read(s)
		if e != api.OK {
			if e != api.ErrForm {
				t.Fatalf("%q: %d", s, e)
			}
			continue
		}
		right++
		if text, e := dump.Text(rows, roots); text != s || e != api.OK {
			t.Fatalf("%q: %q, %d", s, text, e)
		}
	}
	if right < 1000 {
		t.Error(right)
	}
}
