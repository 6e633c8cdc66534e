package atlas_test

import (
	"math/rand"
	"slices"
	"testing"

	"voussoir/api"
	"voussoir/atlas"
)

func TestAWorld(t *testing.T) {
	w := atlas.Of(t, rand.New(rand.NewSource(1)), "var x : 1 .. 3; var b : bool; invar x = 3 -> b; next x := if x = 3 then 1 else x + 1;")
	// The bits are those of x - 1, the lowest one first, and that of b.
	if got := w.States(); got != 0b01110011 || len(w.Graph.States) != 5 {
		t.Errorf("%b, %v", got, w.Graph.States)
	}
	if w.Full() != 0xff || w.M.Vars() != 7 || !slices.Equal(w.Now(), []int{0, 2, 4}) || !slices.Equal(w.Next(), []int{1, 3, 5}) {
		t.Error(w.Full(), w.M.Vars(), w.Now(), w.Next())
	}
	for i, s := range w.Graph.States {
		code := s[0] - 1 + 4*s[1]
		if w.One(i) != 1<<code || !w.In(1<<code, i) || w.In(^(1<<code), i) {
			t.Error(i, s, w.One(i))
		}
	}
	if got := w.Where(func(i int) bool { return w.Graph.States[i][0] == 2 }); got != 0b00100010 {
		t.Errorf("%b", got)
	}
	w.GivesSet("the states", 0b01110011)(w.M.Copy(w.Rel.Valid()))
	// From 2 on b has to be true, from 1 and from 3 on it may be either.
	for from, to := range map[uint64]uint64{0: 0, 1: 0b00100010, 1 << 1: 1 << 6, 1 << 4: 0b00100010, 1 << 5: 1 << 6, 1 << 6: 0b00010001, 1 << 2: 0, 0xff: 0b01110011} {
		if got := w.Post(from); got != to {
			t.Errorf("%b: %b; want %b", from, got, to)
		}
	}
	for to, from := range map[uint64]uint64{0: 0, 1: 1 << 6, 1 << 1: 0b00010001, 1 << 4: 1 << 6, 1 << 5: 0b00010001, 1 << 6: 0b00100010, 1 << 2: 0, 0xff: 0b01110011} {
		if got := w.Pre(to); got != from {
			t.Errorf("%b: %b; want %b", to, got, from)
		}
	}
}

// A set has the values of its table, whatever its variables are.
func TestTables(t *testing.T) {
	r := rand.New(rand.NewSource(2))
	for range 100 {
		w := atlas.Some(t, r, 2)
		for _, vars := range [][]int{w.Now(), w.Next()} {
			values := r.Uint64() & w.Full()
			h := w.Right(w.Put(values, vars))
			w.Disturb()
			if got := w.Read(h, vars); got != values {
				t.Fatalf("%x: %x", values, got)
			}
			w.Gives("a function", values, vars)(w.M.Copy(h))
		}
	}
}

// failure is a test that takes note of what it is told, and ends.
type failure struct{ *testing.T }

func (failure) Fatalf(string, ...any) { panic("fatal") }
func (failure) Fatal(...any)          { panic("fatal") }

// What is not as wanted is told.
func TestFailures(t *testing.T) {
	w := atlas.Of(failure{t}, rand.New(rand.NewSource(3)), "var x : bool;")
	h := w.Set(0b10)
	fails := func(about string, check func()) {
		defer func() {
			if recover() == nil {
				t.Error(about)
			}
		}()
		check()
	}
	fails("another function", func() { w.GivesSet("", 0b01)(w.M.Copy(h)) })
	fails("an old handle", func() { w.GivesSet("", 0b10)(h, api.OK) })
	fails("an error", func() { w.GivesSet("", 0)(0, api.ErrRoom) })
	fails("other variables", func() { w.Read(h, w.Next()) })
	fails("handles that are left", func() {
		check := w.GivesSet("", 0b10)
		w.Set(0b10)
		check(w.M.Copy(h))
	})
}
