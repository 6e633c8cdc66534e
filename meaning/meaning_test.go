package meaning_test

import (
	"math/rand"
	"testing"

	"voussoir/api"
	"voussoir/atlas"
	"voussoir/forms"
	"voussoir/meaning"
	"voussoir/oracle"
	"voussoir/sample"
	"voussoir/typing"
)

// wanted returns the table of the states in which a formula holds.
func wanted(w atlas.World, f api.Form) uint64 {
	w.T.Helper()
	l, e := oracle.Sat(w.Graph, w.Rel.Module(), f)
	if e != api.OK {
		w.T.Fatal(f, e)
	}
	return w.Where(func(i int) bool { return l[i] })
}

// Formulas and what Push makes of them hold where they are to, among all states or within some. Equal ones share a handle, and all handles are dropped in the end.
func TestFormula(t *testing.T) {
	r := rand.New(rand.NewSource(1))
	for range 300 {
		w := atlas.Some(t, r, 60)
		owned := w.M.Handles()
		c := meaning.New(w.Rel, w.Rel.Valid())
		for range 3 {
			f := sample.Form(r, w.Rel.Module().Vars, 4)
			want := wanted(w, f)
			w.Disturb()
			set := c.Formula(f)
			if got := w.Read(set, w.Now()); got != want || c.Fault() != api.OK {
				t.Fatalf("%v: %x; want %x", f, got, want)
			}
			same, negated := c.Formula(forms.Push(f, false)), c.Formula(forms.Push(f, true))
			if w.Read(same, w.Now()) != want || w.Read(negated, w.Now()) != w.States()&^want {
				t.Fatal(f)
			}
			many := w.M.Handles()
			if c.Formula(f) != set || w.M.Handles() != many {
				t.Fatal("found out again")
			}
			w.GivesSet("Take", want)(c.Take(set))
		}
		c.Close()
		if w.M.Handles() != owned {
			t.Fatal(w.M.Handles(), owned)
		}
	}
}

func TestSets(t *testing.T) {
	// From 0 to 1 and 2, from 1 and 2 to themselves, from 2 to 3, from which no path goes on; 5 is a number of no state.
	w := atlas.Of(t, rand.New(rand.NewSource(1)), "var x : 0 .. 3; var b : bool; invar !b; trans x = 0 & (next(x) = 1 | next(x) = 2) | (x = 1 | x = 2) & next(x) = x | x = 2 & next(x) = 3; fair x = 2 | x = 1;")
	p, q := w.Set(0b11110011), w.Set(0b1110)
	owned := w.M.Handles()
	c := meaning.New(w.Rel, w.Rel.Valid())
	for about, x := range map[string]struct {
		set  int
		want uint64
	}{
		"Fair":   {c.Fair(q), 0b0110},
		"And":    {c.And(p, q), 0b0010},
		"Next":   {c.Next(q), 0b0111},
		"Until":  {c.Until(p, q), 0b0111},
		"Always": {c.Always(p), 0b0011},
	} {
		if got := w.Read(x.set, w.Now()); got != x.want {
			t.Errorf("%s: %b; want %b", about, got, x.want)
		}
	}
	c.Close()
	if w.M.Handles() != owned {
		t.Error(w.M.Handles(), owned)
	}
	few := meaning.New(w.Rel, q)
	for s, want := range map[string]uint64{"[x < 2]": 0b0010, "![x < 2]": 0b1100, "[!(x < 2)]": 0b1100, "EX [x < 2]": 0b0010, "AX [x < 3]": 0b1110, "AG [x = 1]": 0b1010} {
		if got := w.Read(few.Formula(sample.Formula(t, s)), w.Now()); got != want {
			t.Errorf("%s: %b; want %b", s, got, want)
		}
	}
	few.Close()
}

// Formulas and terms may be nested deeper than valid ones.
func TestDeep(t *testing.T) {
	w := atlas.Of(t, rand.New(rand.NewSource(1)), "var b : bool; var c : bool; next b := !b;")
	f := sample.Formula(t, "[b & c]")
	for range api.MaxDeep {
		f.E = api.Term{Op: api.TNot, Kids: []api.Term{f.E}}
	}
	for range 2 * api.MaxDeep {
		f = api.Form{Op: api.FEX, Kids: []api.Form{f}}
	}
	c := meaning.New(w.Rel, w.Rel.Valid())
	if got := w.Read(c.Formula(f), w.Now()); got != 0b1010 || c.Fault() != api.OK {
		t.Errorf("%b, %d", got, c.Fault())
	}
	c.Close()
}

// Without room there are no sets any more, and what was found is dropped.
func TestLittleRoom(t *testing.T) {
	r := rand.New(rand.NewSource(2))
	failed := 0
	for range 1000 {
		mod := sample.Module(r)
		vars := 2 * typing.Bits(mod)
		w, e := atlas.New(t, r, mod, vars, 5+r.Intn(5*vars+1))
		if e != api.OK {
			continue
		}
		owned := w.M.Handles()
		c := meaning.New(w.Rel, w.Rel.Valid())
		for range 4 {
			f := sample.Form(r, mod.Vars, 3)
			set := c.Formula(f)
			if c.Fault() == api.OK {
				continue
			}
			failed++
			h, e := c.Take(1)
			if set != 0 || c.Fault() != api.ErrRoom || h != 0 || e != api.ErrRoom || c.Fair(1) != 0 || c.And(1, 1) != 0 || c.Until(1, 1) != 0 || c.Formula(f) != 0 {
				t.Fatal(set, c.Fault(), h, e)
			}
		}
		c.Close()
		if w.M.Handles() != owned {
			t.Fatal(w.M.Handles(), owned)
		}
	}
	if failed < 50 {
		t.Error(failed)
	}
}
