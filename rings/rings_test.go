package rings_test

import (
	"math"
	"math/rand"
	"slices"
	"testing"

	"voussoir/api"
	"voussoir/atlas"
	"voussoir/blast"
	"voussoir/dd"
	"voussoir/ops"
	"voussoir/rel"
	"voussoir/rings"
	"voussoir/sample"
	"voussoir/trial"
	"voussoir/typing"
)

// world is a world in which it can be told by enumeration what is wanted.
type world struct{ atlas.World }

// ofText returns the world of the model with that text.
func ofText(t *testing.T, s string) world {
	t.Helper()
	return world{atlas.Of(t, rand.New(rand.NewSource(1)), s)}
}

// frontiers returns the tables to which To is to come, by the distance of each state, which is shortened until it is right for all.
func (w world) frontiers(p, q uint64) (l []uint64) {
	far := make([]int, len(w.Graph.States))
	for i := range far {
		far[i] = math.MaxInt
		if w.In(q, i) {
			far[i] = 0
		}
	}
	for again := true; again; {
		again = false
		for i, next := range w.Graph.Next {
			for _, k := range next {
				if w.In(p, i) && far[k] < math.MaxInt && far[k]+1 < far[i] {
					far[i], again = far[k]+1, true
				}
			}
		}
	}
	for n := 0; n == 0 || slices.Contains(far, n); n++ {
		l = append(l, w.Where(func(i int) bool { return far[i] == n }))
	}
	return l
}

// of returns the index of the first frontier with a state, or -1.
func (w world) of(l []uint64, i int) int {
	return slices.IndexFunc(l, func(values uint64) bool { return w.In(values, i) })
}

// isTo checks what To answers for sets with these tables, and returns it.
func (w world) isTo(f, g int, p, q uint64) []int {
	w.T.Helper()
	want := w.frontiers(p, q)
	owned := w.M.Handles()
	l, e := rings.To(w.Rel, f, g)
	if len(l) != len(want) || e != api.OK || w.M.Handles() != owned+len(l) {
		w.T.Fatalf("To(%x, %x): %v, %d, and %d handles more; want %x", p, q, l, e, w.M.Handles()-owned, want)
	}
	for n, h := range l {
		if got := w.Read(w.Right(h, e), w.Now()); got != want[n] || slices.Contains(l[:n], h) {
			w.T.Fatalf("frontier %d of %x, %x: %x; want %x", n, p, q, got, want[n])
		}
	}
	return l
}

// answers checks what all functions answer, and returns the number of frontiers.
func (w world) answers(p, q uint64) int {
	w.T.Helper()
	f, g := w.Set(p), w.Set(q)
	owned := w.M.Handles()
	w.Disturb()
	l, want := w.isTo(f, g, p, q), w.frontiers(p, q)
	for i := range w.Graph.States {
		w.Disturb()
		w.leads(l, want, i)
	}
	if w.Read(f, w.Now()) != p || w.Read(g, w.Now()) != q || w.M.Handles() != owned+len(l) {
		w.T.Fatal("a set has changed, or there are other handles")
	}
	if e := rings.Drop(w.Rel, l); e != api.OK || w.M.Handles() != owned || slices.ContainsFunc(l, w.M.Is) {
		w.T.Fatal(e, w.M.Handles(), owned)
	}
	w.M.Drop(f, g)
	return len(l)
}

// leads checks what Of and Down answer for frontiers with these tables, and for the state with that index.
func (w world) leads(l []int, tables []uint64, i int) {
	w.T.Helper()
	s, wanted, path := w.Graph.States[i], w.of(tables, i), []int(nil)
	n, e1 := rings.Of(w.Rel, l, s)
	down, e2 := rings.Down(w.Rel, l, s)
	if wanted < 0 {
		if n != 0 || len(down) != 0 || e1 != api.ErrPath || e2 != api.ErrPath {
			w.T.Fatal(s, n, down, e1, e2)
		}
		return
	}
	for path = append(path, i); len(path) <= wanted; {
		next := w.Graph.Next[path[len(path)-1]]
		path = append(path, next[slices.IndexFunc(next, func(k int) bool { return w.In(tables[wanted-len(path)], k) })])
	}
	if n != wanted || e1 != api.OK || e2 != api.OK || len(down) != len(path) {
		w.T.Fatal(s, n, down, e1, e2, wanted, path)
	}
	for k, i := range path {
		if !slices.Equal(down[k], w.Graph.States[i]) {
			w.T.Fatal(s, down, path)
		}
	}
}

func TestTheExample(t *testing.T) {
	w := ofText(t, "var x : 0 .. 3; next x := if x = 3 then 3 else x + 1;")
	l, e := rings.To(w.Rel, 1, w.Set(0b1000))
	if len(l) != 4 || e != api.OK {
		t.Fatal(l, e)
	}
	for n, h := range l {
		if got := w.Read(h, w.Now()); got != 0b1000>>n {
			t.Errorf("frontier %d: %b", n, got)
		}
	}
	if n, e := rings.Of(w.Rel, l, []int{1}); n != 2 || e != api.OK {
		t.Error(n, e)
	}
	if path, e := rings.Down(w.Rel, l, []int{1}); !slices.EqualFunc(path, [][]int{{1}, {2}, {3}}, slices.Equal[[]int]) || e != api.OK {
		t.Error(path, e)
	}
}

func TestRandomModels(t *testing.T) {
	r := rand.New(rand.NewSource(48))
	met := map[int]int{}
	for range 200 {
		w := world{atlas.Some(t, r, 10)}
		owned := w.M.Handles()
		for range 4 {
			p, q := (r.Uint64()|r.Uint64())&w.Full(), r.Uint64()&r.Uint64()&w.Full()
			if n := len(w.Graph.States); n > 0 && r.Intn(2) == 0 {
				q = w.One(r.Intn(n))
			}
			met[w.answers(p, q)]++
			met[w.answers(w.Full(), q)]++
		}
		w.answers(w.Full(), 0)
		w.answers(0, w.Full())
		if w.M.Handles() != owned {
			t.Fatal(w.M.Handles(), owned)
		}
	}
	if met[1] < 300 || met[2] < 150 || met[3] < 30 || met[4] < 10 {
		t.Error(met)
	}
}

// In these models the frontiers are many, and there are several ways to go. What p leaves out makes the ways longer.
func TestModels(t *testing.T) {
	for text, least := range map[string]int{
		"":                1,
		"invar false;":    1,
		"var k : 7 .. 7;": 1,
		"trans false;":    1,
		"var x : 0 .. 2;": 2,
		"var x : 0 .. 31; next x := (5 * x + 3) mod 32;":                                                                       20,
		"var x : 0 .. 31; trans next(x) = x + 2 | next(x) = x - 3;":                                                            10,
		"var a : 0 .. 5; var b : 0 .. 5; trans a = next(a) & next(b) = b + 1 | b = next(b) & next(a) = a + 1;":                 6,
		"var a : 0 .. 4; var b : 0 .. 4; trans next(a) + next(b) = a + b + 1; invar a != 2 | b = 2;":                           4,
		"var x : 0 .. 6; var b : bool; next x := if b then x + 1 else x; invar x = 3 -> b; trans b -> !next(b) | next(x) < 4;": 4,
	} {
		w := ofText(t, text)
		longest := 0
		for range 5 {
			p, q := w.R.Uint64()&w.Full(), w.R.Uint64()&w.Full()
			if n := len(w.Graph.States); n > 0 {
				q = w.One(w.R.Intn(n)) | p&q&(w.R.Uint64()<<32)
			}
			longest = max(longest, w.answers(p, q), w.answers(p|w.R.Uint64()&w.Full(), q), w.answers(w.Full(), q))
		}
		if longest < least {
			t.Errorf("%s: at most %d frontiers", text, longest)
		}
	}
}

// The values of the bits of no state do not count.
func TestBitsOfNoState(t *testing.T) {
	w := ofText(t, "var x : 0 .. 2; var b : bool; invar x = 2 -> b; next x := if x = 2 then 0 else x + 1;")
	others := w.Full() &^ w.States()
	if others != 0b10001100 {
		t.Fatalf("%b", others)
	}
	for values := range uint64(256) {
		w.answers(values, values*37&0xff)
		w.answers(values|others, values)
		w.answers(values, values&others)
		w.answers(values&others, values)
	}
}

// The frontiers of a list may be those at its end or at its beginning only, and any state may be looked for there.
func TestPartsOfLists(t *testing.T) {
	w := ofText(t, "var x : 0 .. 15; trans next(x) = x + 2 | next(x) = x - 3;")
	tables := w.frontiers(w.Full(), 0b100)
	l, e := rings.To(w.Rel, 1, w.Set(0b100))
	if e != api.OK || len(l) < 5 || len(l) != len(tables) {
		t.Fatal(l, e)
	}
	for from := range l {
		for to := from; to <= len(l); to++ {
			for i := range w.Graph.States {
				w.leads(l[from:to], tables[from:to], i)
			}
		}
	}
}

// For a list that is none of To's there is nothing to be promised but an end.
func TestOtherLists(t *testing.T) {
	w := ofText(t, "var x : 0 .. 3; next x := if x = 3 then 3 else x + 1;")
	one, three := w.Set(0b10), w.Set(0b1000)
	owned := w.M.Handles()
	for _, l := range [][]int{{one, three}, {0, one, three}, {one, one, three}} {
		if path, e := rings.Down(w.Rel, l, []int{3}); len(path) != 0 || e != api.ErrPath || w.M.Handles() != owned {
			t.Error(l, path, e)
		}
	}
}

// An event may take place at any moment of a call.
func TestEvents(t *testing.T) {
	const p, q = 0b01110001, 0b00010000
	w := ofText(t, "var x : 0 .. 2; var b : bool; invar x = 2 -> b; next x := if x = 2 then 0 else x + 1; trans next(b) = b | x = 2;")
	f, g := w.Set(p), w.Set(q)
	want := w.frontiers(p, q)
	l, e := rings.To(w.Rel, f, g)
	if e != api.OK || len(l) != 3 {
		t.Fatal(l, e)
	}
	farthest := slices.IndexFunc(w.Graph.States, func(s []int) bool { return w.In(want[2], w.Graph.Find(s)) })
	for about, check := range map[string]func(){
		"To":          func() { w.M.Drop(w.isTo(f, g, p, q)...) },
		"Of and Down": func() { w.leads(l, want, farthest) },
	} {
		for kind := api.EvCollect; kind <= api.EvTurn; kind++ {
			for _, level := range []int{0, 3, 5} {
				after := 0
				for w.M.Waits() == 0 {
					after += 1 + after/20
					w.M.Plan(api.Event{After: after, Kind: kind, Level: level}, api.Event{After: 1, Kind: api.EvCollect})
					check()
				}
				if after < 10 {
					t.Error(about, after)
				}
				for w.M.Waits() > 0 {
					w.M.Drop(w.Set(0b1))
				}
			}
		}
	}
}

func TestDerivedProperties(t *testing.T) {
	r := rand.New(rand.NewSource(49))
	steps := 0
	for range 200 {
		w := world{atlas.Some(t, r, 80)}
		h := w.Right
		p, q := h(ops.And(w.M, w.Set((r.Uint64()|r.Uint64())&w.Full()), w.Rel.Valid())), w.Set(r.Uint64()&r.Uint64()&w.Full())
		l, e := rings.To(w.Rel, p, q)
		if e != api.OK {
			t.Fatal(e)
		}
		for n, ring := range l {
			before := h(ops.Or(w.M, l[:n]...))
			w.Asks("disjoint", false)(ops.Meets(w.M, ring, before))
			if n > 0 {
				w.Asks("empty", false)(w.M.Same(ring, 0))
				w.Asks("of p", true)(ops.Within(w.M, ring, p))
			}
			for i, s := range w.Graph.States {
				if !w.In(w.Read(ring, w.Now()), i) {
					continue
				}
				path, e := rings.Down(w.Rel, l, s)
				if len(path) != n+1 || e != api.OK || !slices.Equal(path[0], s) {
					t.Fatal(n, path, e)
				}
				for k, s := range path[:n] {
					steps++
					if i := w.Graph.Find(s); !w.In(w.Read(p, w.Now()), i) || !slices.Contains(w.Graph.Next[i], w.Graph.Find(path[k+1])) {
						t.Fatal(path)
					}
				}
			}
		}
	}
	if steps < 150 {
		t.Error(steps)
	}
}

// fails returns a check that a call has failed with that error, beside an empty list.
func fails[T any](w world, about string, want api.Errno) func(l []T, e api.Errno) {
	owned := w.M.Handles()
	return func(l []T, e api.Errno) {
		w.T.Helper()
		if len(l) != 0 || e != want || w.M.Handles() != owned {
			w.T.Errorf("%s: %v, %d; want %d", about, l, e, want)
		}
	}
}

func TestWrongArguments(t *testing.T) {
	w := ofText(t, "var x : 0 .. 2; var b : bool; invar x = 2 -> b; next x := if x = 2 then 0 else x + 1;") // variable 6 is no bit's
	gone := w.Set(0b10)
	w.M.Drop(gone)
	later := w.Right(w.Put(0b0110, w.Next()))
	none := w.Right(w.M.Var(6))
	hidden := w.Right(w.Put(1<<15, []int{0, 2, 4, 6})) // it depends on variable 6 only where the bits are those of no state
	set := w.Set(0b1)
	fails[int](w, "To", api.ErrNone)(rings.To(nil, 0, 1))
	fails[int](w, "To", api.ErrNone)(rings.To(nil, -1, later))
	for _, bad := range []int{gone, -1, math.MinInt, math.MaxInt} {
		fails[int](w, "To", api.ErrHandle)(rings.To(w.Rel, bad, 1))
		fails[int](w, "To", api.ErrHandle)(rings.To(w.Rel, 0, bad))
		fails[int](w, "To", api.ErrHandle)(rings.To(w.Rel, bad, later))
		fails[int](w, "To", api.ErrHandle)(rings.To(w.Rel, later, bad))
	}
	for _, bad := range []int{later, none, hidden} {
		fails[int](w, "To", api.ErrArg)(rings.To(w.Rel, bad, 1))
		fails[int](w, "To", api.ErrArg)(rings.To(w.Rel, 0, bad))
	}
	state, strange := []int{2, 1}, [][]int{nil, {}, {0}, {2, 0}, {0, 0, 0}, {-1, 0}, {0, 2}, {3, 1}, {math.MinInt, 1}, {0, math.MaxInt}}
	both := func(want api.Errno, r *rel.Rel, l []int, s []int) {
		t.Helper()
		w.Fails("Of", want)(rings.Of(r, l, s))
		fails[[]int](w, "Down", want)(rings.Down(r, l, s))
	}
	for _, s := range append(strange, state) {
		both(api.ErrNone, nil, nil, s)
		both(api.ErrNone, nil, []int{-1, later}, s)
		for _, bad := range []int{gone, -1, math.MinInt, math.MaxInt} {
			both(api.ErrHandle, w.Rel, []int{bad}, s)
			both(api.ErrHandle, w.Rel, []int{1, bad}, s)
			both(api.ErrHandle, w.Rel, []int{later, 0, bad, 1}, s)
		}
		both(api.ErrArg, w.Rel, []int{1, later}, s)
		both(api.ErrArg, w.Rel, []int{none, 0}, s)
		both(api.ErrArg, w.Rel, []int{hidden}, s)
	}
	for _, s := range strange {
		both(api.ErrState, w.Rel, nil, s)
		both(api.ErrState, w.Rel, []int{1, set}, s)
	}
	both(api.ErrPath, w.Rel, nil, state)
	both(api.ErrPath, w.Rel, []int{set, 0}, state)
}

func TestDrop(t *testing.T) {
	w := ofText(t, "var x : 0 .. 3;")
	for _, l := range [][]int{nil, {0, 1}, {-1}} {
		if e := rings.Drop(nil, l); e != api.ErrNone {
			t.Error(l, e)
		}
	}
	a, b, c := w.Set(0b1), w.Set(0b10), w.Set(0b100)
	owned := w.M.Handles()
	if e := rings.Drop(w.Rel, nil); e != api.OK || w.M.Handles() != owned {
		t.Error(e)
	}
	if e := rings.Drop(w.Rel, []int{0, a, 1}); e != api.OK || w.M.Handles() != owned-1 || w.M.Is(a) {
		t.Error(e)
	}
	if e := rings.Drop(w.Rel, []int{b, a, c}); e != api.ErrHandle || w.M.Handles() != owned-2 || w.M.Is(b) || !w.M.Is(c) {
		t.Error(e)
	}
}

// After a call that finds no room everything is as before.
func TestLittleRoom(t *testing.T) {
	r := rand.New(rand.NewSource(50))
	failed, done := map[string]int{}, map[string]int{}
	for range 2500 {
		mod := sample.Module(r)
		vars := 2 * typing.Bits(mod)
		small, e := atlas.New(t, r, mod, vars, 5+r.Intn(6*vars+1))
		if e != api.OK || len(small.Graph.States) == 0 {
			continue
		}
		w := world{small}
		p, q := w.Full(), w.One(r.Intn(len(w.Graph.States)))
		f, e1 := w.Put(p, w.Now())
		g, e2 := w.Put(q, w.Now())
		if e1 != api.OK || e2 != api.OK {
			continue
		}
		want := w.frontiers(p, q)
		last := slices.IndexFunc(w.Graph.States, func(s []int) bool { return w.In(want[len(want)-1], w.Graph.Find(s)) })
		owned := w.M.Handles()
		w.Disturb()
		l, e := rings.To(w.Rel, f, g)
		switch {
		case e == api.OK && len(l) == len(want) && w.M.Handles() == owned+len(l):
			done["To"]++
		case e == api.ErrRoom && len(l) == 0 && w.M.Handles() == owned:
			failed["To"]++
			continue
		default:
			t.Fatal(l, e, w.M.Handles(), owned)
		}
		for range 99 { // little room is left after that
			w.Put(r.Uint64()&w.Full(), w.Now())
		}
		handles := w.M.Handles()
		w.Disturb()
		path, e := rings.Down(w.Rel, l, w.Graph.States[last])
		switch {
		case e == api.OK && len(path) == len(l):
			done["Down"]++
		case e == api.ErrRoom && len(path) == 0:
			failed["Down"]++
		default:
			t.Fatal(path, e)
		}
		if n, e := rings.Of(w.Rel, l, w.Graph.States[last]); n != len(l)-1 || e != api.OK {
			t.Fatal(n, e)
		}
		for n, h := range l {
			if w.Read(h, w.Now()) != want[n] {
				t.Fatal(n, "is the wrong set")
			}
		}
		if w.M.Handles() != handles || w.Read(f, w.Now()) != p || w.Read(g, w.Now()) != q {
			t.Fatal(w.M.Handles(), handles)
		}
	}
	for _, about := range []string{"To", "Down"} {
		if failed[about] < 20 || done[about] < 300 {
			t.Error(about, failed[about], done[about])
		}
	}
}

// Where the room is Enough for the handles, no call fails for it.
func TestEnoughRoom(t *testing.T) {
	r := rand.New(rand.NewSource(51))
	for done := 0; done < 400; {
		mod := sample.Module(r)
		vars := 2 * typing.Bits(mod)
		if vars > 6 {
			continue
		}
		done++
		handles := 2 + 2 + len(mod.Next) + len(mod.Trans) + 1 + len(mod.Fair) + 2 // those of answers are the last ones
		w, e := atlas.New(t, r, mod, vars, trial.Enough(vars, handles))
		if e != api.OK {
			t.Fatal(e)
		}
		for range 3 {
			world{w}.answers((r.Uint64()|r.Uint64())&w.Full(), r.Uint64()&r.Uint64()&w.Full())
		}
	}
}

// There are as many frontiers as there may be, or one more.
func TestManyFrontiers(t *testing.T) {
	mod := sample.Model(t, sample.Chain)
	m, e := dd.New(2*typing.Bits(mod), 1<<17)
	if e != api.OK {
		t.Fatal(e)
	}
	r, e := rel.New(m, mod)
	if e != api.OK {
		t.Fatal(e)
	}
	w := world{atlas.World{World: &trial.World{T: t, M: m}, Rel: r}}
	last := w.Right(blast.State(m, r.Layout(), []int{1, 0, 0}, false))
	first := w.Right(blast.State(m, r.Layout(), []int{0, 0, 0}, false))
	fails[int](w, "To", api.ErrFuel)(rings.To(r, 1, last))
	but := w.Right(m.Not(first))
	owned := m.Handles()
	l, e := rings.To(r, but, last)
	if len(l) != api.MaxSteps || e != api.OK || m.Handles() != owned+len(l) {
		t.Fatal(len(l), e)
	}
	if n, e := rings.Of(r, l, []int{0, 0, 1}); n != 4095 || e != api.OK {
		t.Error(n, e)
	}
	w.Fails("Of", api.ErrPath)(rings.Of(r, l, []int{0, 0, 0}))
	path, e := rings.Down(r, l, []int{0, 0, 1})
	if len(path) != 4096 || e != api.OK {
		t.Fatal(len(path), e)
	}
	for i, s := range path {
		if (i+1)&4095 != s[1]*64+s[2] || (i+1)>>12 != s[0] {
			t.Fatal(i, s)
		}
	}
	if e := rings.Drop(r, l); e != api.OK || m.Handles() != owned {
		t.Error(e, m.Handles(), owned)
	}
}

// The states of a path are in memory of their own.
func TestNewMemory(t *testing.T) {
	w := ofText(t, "var x : 0 .. 3; var y : 0 .. 3; next x := if x < 3 then x + 1 else 0; next y := y;")
	l, e := rings.To(w.Rel, 1, w.Set(0b1000))
	if len(l) != 4 || e != api.OK {
		t.Fatal(l, e)
	}
	s := append(make([]int, 0, 9), 0, 0)
	path, e := rings.Down(w.Rel, l, s)
	if len(path) != 4 || e != api.OK {
		t.Fatal(path, e)
	}
	for i := range path {
		row := append(path[i], 9)
		row[0], path[i][1] = 9, 9
		for k := i + 1; k < len(path); k++ {
			if !slices.Equal(path[k], []int{k, 0}) {
				t.Fatal(path)
			}
		}
	}
	if !slices.Equal(s[:3], []int{0, 0, 0}) {
		t.Error("memory in common with an argument")
	}
}
