package sets_test

import (
	"math"
	"math/rand"
	"slices"
	"testing"

	"voussoir/api"
	"voussoir/atlas"
	"voussoir/enc"
	"voussoir/sets"
	"voussoir/typing"
)

func TestFlaw(t *testing.T) {
	w := atlas.Of(t, rand.New(rand.NewSource(1)), "var n : 0 .. 2; next n := 2 - n;") // variable 4 is no bit's
	now, next, both := w.Set(0b0110), w.Right(w.Put(0b0110, w.Next())), w.Right(w.Put(0b0110, []int{0, 1}))
	none := w.Right(w.M.Var(4))
	gone := w.Set(0b1)
	w.M.Drop(gone)
	for _, x := range []struct {
		l            []int
		flaw, ofNext api.Errno
	}{
		{nil, api.OK, api.OK},
		{[]int{0, 1, 1}, api.OK, api.OK},
		{[]int{now, 0, now}, api.OK, api.ErrArg},
		{[]int{1, next}, api.ErrArg, api.OK},
		{[]int{both}, api.ErrArg, api.ErrArg},
		{[]int{0, none}, api.ErrArg, api.ErrArg},
		{[]int{gone}, api.ErrHandle, api.ErrHandle},
		{[]int{none, now, -1}, api.ErrHandle, api.ErrHandle},
		{[]int{math.MaxInt, next}, api.ErrHandle, api.ErrHandle},
		{[]int{next, now, math.MinInt}, api.ErrHandle, api.ErrHandle},
	} {
		if e := sets.Flaw(w.Rel, x.l...); e != x.flaw {
			t.Errorf("%v: %d; want %d", x.l, e, x.flaw)
		}
		if e := sets.Among(w.Rel, w.Next(), x.l...); e != x.ofNext {
			t.Errorf("%v: %d; want %d", x.l, e, x.ofNext)
		}
		if e := sets.Flaw(nil, x.l...); e != api.ErrNone {
			t.Errorf("%v: %d", x.l, e)
		}
		if e := sets.Among(nil, nil, x.l...); e != api.ErrNone {
			t.Errorf("%v: %d", x.l, e)
		}
	}
}

// strangers returns lists that are no states of a world.
func strangers(w atlas.World) (l [][]int) {
	vars := w.Rel.Module().Vars
	low := make([]int, len(vars))
	for i, v := range vars {
		low[i] = v.Lo
	}
	l = append(l, append(slices.Clone(low), 0))
	for i, v := range vars {
		l = append(l, low[:i])
		for _, n := range []int{v.Lo - 1, v.Lo + typing.Span(v), math.MinInt, math.MaxInt} {
			s := slices.Clone(low)
			s[i] = n
			l = append(l, s)
		}
	}
	for code := range uint64(1 << w.Rel.Layout().Total()) {
		var b []bool
		for i := range w.Now() {
			b = append(b, code>>i&1 == 1)
		}
		if s, e := w.Rel.Layout().State(b); e == api.OK && w.Graph.Find(s) < 0 {
			l = append(l, s)
		}
	}
	return l
}

func TestStates(t *testing.T) {
	r := rand.New(rand.NewSource(2))
	yes, no, strange := 0, 0, 0
	for range 200 {
		w := atlas.Some(t, r, 2)
		values := r.Uint64() & w.Full()
		h := w.Set(values)
		w.Disturb()
		for i, s := range w.Graph.States {
			want, _ := w.Rel.Layout().Code(s)
			if b, e := sets.Code(w.Rel, s); !slices.Equal(b, want) || e != api.OK {
				t.Fatal(s, b, e)
			}
			w.Asks("Has", w.In(values, i))(sets.Has(w.Rel, h, s))
			if w.In(values, i) {
				yes++
			} else {
				no++
			}
		}
		for _, s := range strangers(w) {
			strange++
			if b, e := sets.Code(w.Rel, s); len(b) != 0 || e != api.ErrState {
				t.Fatal(s, b, e)
			}
			if in, e := sets.Has(w.Rel, h, s); in || e != api.ErrState {
				t.Fatal(s, in, e)
			}
		}
	}
	if yes < 300 || no < 300 || strange < 1000 {
		t.Error(yes, no, strange)
	}
}

func TestHighFirst(t *testing.T) {
	l, e := enc.Of([]api.Var{{Name: "a", Hi: 6}, {Name: "b", Bool: true}, {Name: "c", Lo: 5, Hi: 5}, {Name: "d", Hi: 3}})
	if e != api.OK {
		t.Fatal(e)
	}
	before := []string{"a0", "a1", "a2", "b", "d0", "d1"}
	names := slices.Clone(before)
	got := sets.HighFirst(l, names)
	if !slices.Equal(got, []string{"a2", "a1", "a0", "b", "d1", "d0"}) || !slices.Equal(names, before) || !slices.Equal(sets.HighFirst(l, got), before) {
		t.Error(got, names)
	}
	got[3] = ""
	if !slices.Equal(names, before) {
		t.Error(names)
	}
	if got := sets.HighFirst(enc.Layout{}, []bool{}); len(got) != 0 {
		t.Error(got)
	}
}

func TestLeast(t *testing.T) {
	r := rand.New(rand.NewSource(3))
	found, empty := 0, 0
	for range 300 {
		w := atlas.Some(t, r, 5)
		for many := range 4 {
			both := w.Full()
			l := make([]int, 0, many+1) // room that is not to be used
			for range many {
				values := (r.Uint64() | r.Uint64()&r.Uint64()) & w.Full()
				both &= values
				l = append(l, w.Set(values))
			}
			w.Disturb()
			handles := w.M.Handles()
			want := slices.IndexFunc(w.Graph.States, func(s []int) bool { return w.In(both, w.Graph.Find(s)) })
			s, e := sets.Least(w.Rel, l...)
			switch {
			case w.M.Handles() != handles || l[:many+1][many] != 0:
				t.Fatal(w.M.Handles(), handles, l[:many+1])
			case want < 0:
				empty++
				if len(s) != 0 || e != api.ErrEmpty {
					t.Fatal(s, e)
				}
			case !slices.Equal(s, w.Graph.States[want]) || e != api.OK:
				t.Fatal(s, e, w.Graph.States[want])
			default:
				found++
			}
			w.M.Drop(l...)
		}
	}
	if found < 300 || empty < 50 {
		t.Error(found, empty)
	}
}
