package lasso_test

import (
	"math"
	"math/bits"
	"math/rand"
	"slices"
	"strings"
	"testing"

	"voussoir/api"
	"voussoir/atlas"
	"voussoir/dd"
	"voussoir/fairs"
	"voussoir/lasso"
	"voussoir/oracle"
	"voussoir/paths"
	"voussoir/rel"
	"voussoir/sample"
	"voussoir/trial"
	"voussoir/typing"
)

// world is a world in which it can be told by enumeration what is wanted.
type world struct{ atlas.World }

// ofText returns the world of the model with that text.
func ofText(t *testing.T, s string) world {
	t.Helper()
	return world{atlas.Of(t, rand.New(rand.NewSource(1)), s)}
}

// hull returns the table of the states from which a fair path starts within p.
func (w world) hull(p uint64) uint64 {
	var in []bool
	for i := range w.Graph.States {
		in = append(in, w.In(p, i))
	}
	fair := oracle.Fair(w.Graph, in)
	return w.Where(func(i int) bool { return fair[i] })
}

// flaw tells what is wrong about a lasso that is to start with head and to be within p from the last state of that on.
func (w world) flaw(p uint64, head [][]int, path [][]int, loop int) string {
	first := len(head) - 1
	if loop < first || loop >= len(path) || !slices.EqualFunc(path[:len(head)], head, slices.Equal) {
		return "no loop, or another head"
	}
	var at []int
	for _, s := range path {
		at = append(at, w.Graph.Find(s))
	}
	for i, k := range append(at[1:len(at):len(at)], at[loop]) {
		if at[i] < 0 || !slices.Contains(w.Graph.Next[at[i]], k) {
			return "no transition"
		}
	}
	hull := w.hull(p)
	if slices.ContainsFunc(at[first:], func(i int) bool { return !w.In(hull, i) }) {
		return "out of the hull"
	}
	for c := range w.Rel.Fair() {
		if !slices.ContainsFunc(at[loop:], func(i int) bool { return w.Graph.Fair[i][c] }) {
			return "unfair"
		}
	}
	if !paths.Lasso(w.Rel.Module(), path, loop) {
		return "no lasso of layer 51"
	}
	if k := bits.OnesCount64(p & w.States()); len(path)-first > k*(len(w.Rel.Fair())+2) {
		return "too long"
	}
	return ""
}

// answers checks what both functions answer for a set, for all states. It returns the number of the lassos in which some states come before the loop, and that of those with a loop of several states.
func (w world) answers(p uint64) (leading, wide int) {
	w.T.Helper()
	set, hull := w.Set(p), w.hull(p)
	owned := w.M.Handles()
	for i, s := range w.Graph.States {
		head := w.walk(i)
		w.Disturb()
		path, loop, e := lasso.Of(w.Rel, set, s)
		w.Disturb()
		far, back, fault := lasso.Start(w.Rel, set, head)
		switch {
		case w.M.Handles() != owned || w.Read(set, w.Now()) != p:
			w.T.Fatal("a set has changed", w.M.Handles(), owned)
		case !w.In(hull, i):
			if len(path) != 0 || loop != 0 || e != api.ErrPath || len(far) != 0 || back != 0 || fault != api.ErrPath {
				w.T.Fatal(s, path, loop, e, far, back, fault)
			}
			continue
		case e != api.OK || fault != api.OK:
			w.T.Fatal(s, e, fault, w.Rel.Module())
		}
		if flaw := w.flaw(p, [][]int{s}, path, loop); flaw != "" {
			w.T.Fatalf("%s: %v, %d for %x; %v", flaw, path, loop, p, w.Rel.Module())
		}
		if flaw := w.flaw(p, head, far, back); flaw != "" {
			w.T.Fatalf("%s: %v, %d for %x; %v", flaw, far, back, p, w.Rel.Module())
		}
		if last := len(head) - 1; back-last != loop || !slices.EqualFunc(far[last:], path, slices.Equal) {
			w.T.Fatal(head, far, back, path, loop)
		}
		leading += min(loop, 1)
		wide += min(len(path)-loop-1, 1)
	}
	w.M.Drop(set)
	return leading, wide
}

// walk returns states that lead to the one with that index, which is the last one, by transitions.
func (w world) walk(i int) (l [][]int) {
	prev := w.Graph.Prev()
	l = [][]int{w.Graph.States[i]}
	for range w.R.Intn(4) {
		if len(prev[i]) == 0 {
			break
		}
		i = prev[i][w.R.Intn(len(prev[i]))]
		l = slices.Insert(l, 0, w.Graph.States[i])
	}
	return l
}

func TestTheExample(t *testing.T) {
	w := ofText(t, "var n : 0 .. 2; next n := if n < 2 then n + 1 else 0; fair n = 1;")
	path, loop, e := lasso.Of(w.Rel, w.Rel.Valid(), []int{0})
	if !slices.EqualFunc(path, [][]int{{0}, {1}, {2}}, slices.Equal) || loop != 0 || e != api.OK {
		t.Error(path, loop, e)
	}
	path, loop, e = lasso.Start(w.Rel, w.Rel.Valid(), [][]int{{1}, {2}})
	if !slices.EqualFunc(path, [][]int{{1}, {2}, {0}, {1}}, slices.Equal) || loop != 1 || e != api.OK {
		t.Error(path, loop, e)
	}
}

func TestRandomModels(t *testing.T) {
	r := rand.New(rand.NewSource(49))
	leading, wide, several := 0, 0, 0
	for range 200 {
		w := world{atlas.Some(t, r, 20)}
		owned := w.M.Handles()
		for range 3 {
			before, round := w.answers((r.Uint64() | r.Uint64() | r.Uint64()) & w.Full())
			leading += before
			wide += round
			if len(w.Rel.Fair()) > 1 {
				several += round
			}
		}
		w.answers(w.Full())
		if w.M.Handles() != owned {
			t.Fatal(w.M.Handles(), owned)
		}
	}
	if leading < 200 || wide < 80 || several < 30 {
		t.Error(leading, wide, several)
	}
}

// In these models it takes different detours to meet all constraints, and components that are not fair have to be left.
func TestModels(t *testing.T) {
	for _, s := range []string{
		"",
		"fair false;",
		"trans false;",
		"invar false;",
		"var k : 7 .. 7;",
		"var x : bool; fair x; fair !x;",
		"var x : 0 .. 31; next x := x; fair x mod 3 = 1;",
		"var x : 0 .. 31; trans x <= next(x); fair x mod 5 = 2; fair x mod 3 = 1;",
		"var x : 0 .. 31; trans next(x) <= x; fair 7 < x; fair x < 20;",
		"var x : 0 .. 31; trans x < next(x) | x = 31 & 20 < next(x); fair x != 27;",
		"var x : 0 .. 31; next x := (5 * x + 4) mod 32; fair x < 16;",
		"var x : 0 .. 31; next x := (x + 5) mod 32; fair x = 3; fair x = 2; fair x = 31; fair x = 30; fair x = 4; fair x = 3;",
		"var x : 0 .. 31; trans next(x) = (x * x) mod 32 | next(x) = (x * 3) mod 32; fair x mod 4 = 1; fair x < 9;",
		"var x : 0 .. 31; trans next(x) = x + 2 | x mod 5 = 4 & next(x) = x - 3; fair x mod 7 < 3; fair 1 < x mod 4; fair 5 < x;",
		"var a : 0 .. 5; var b : 0 .. 5; trans a = next(a) & next(b) = b + 1 | b = next(b) & next(a) = (a + 1) mod 6; fair a = b;",
		"var a : 0 .. 7; var b : 0 .. 7; next a := a; next b := if b < a then b + 1 else 0; fair b = 3; fair a != 6;",
		"var a : 0 .. 4; var b : 0 .. 4; trans next(a) + next(b) = a + b | next(a) + next(b) = a + b + 3; invar a != 2 | b = 2; fair a < b; fair b < a;",
		"var x : 0 .. 6; var b : bool; next x := if b then x + 1 else x; invar x = 3 -> b; trans b -> !next(b) | next(x) < 4; fair !b; fair x != 4;",
	} {
		w := ofText(t, s)
		for range 2 {
			w.answers((w.R.Uint64() | w.R.Uint64() | w.R.Uint64()) & w.Full())
		}
		w.answers(0)
		w.answers(w.Full())
	}
}

// The values of the bits of no state do not count.
func TestBitsOfNoState(t *testing.T) {
	w := ofText(t, "var x : 0 .. 2; var b : bool; invar x = 2 -> b; trans next(x) = x + 1 | next(x) = x - 1; fair !b; fair x = 1;")
	if w.States() != 0b01110011 {
		t.Fatalf("%b", w.States())
	}
	for values := range uint64(256) {
		w.answers(values)
	}
}

// It is the nearest states in which one can go round, or nearly so, and one goes straight to them and to what has to be met there.
func TestShortWays(t *testing.T) {
	const tail = "var x : 0 .. 63; trans x < 63 & next(x) = x + 1 | x = 2 & next(x) = 1 | x = 40 & next(x) = 30 | x = 63 & next(x) = 63; "
	for _, x := range []struct {
		text       string
		s          int
		path, loop int
	}{
		{tail, 0, 3, 1},
		{tail, 1, 2, 0},
		{tail, 3, 38, 27},
		{tail + "fair x != 1;", 0, 3, 1},
		{tail + "fair x = 35; fair x = 33;", 1, 40, 29},
		{tail + "fair x = 63;", 1, 63, 62},
		{"var x : 0 .. 63; trans x < next(x) | x = 63 & next(x) = 63;", 3, 2, 1},
		{"var x : 0 .. 63; trans x < next(x) | x = 63 & next(x) = 63; fair 8 < x;", 63, 1, 0},
		{"var x : 0 .. 63; trans x <= next(x); fair x mod 16 = 7;", 9, 2, 1},
		{"var x : 0 .. 63; next x := (x + 1) mod 64; fair x = 9; fair x = 5; fair x = 7;", 3, 64, 0},
		{"var x : 0 .. 63; fair x = 9; fair x mod 4 = 1; fair x < 11; fair x = 8; fair x mod 9 < 7;", 50, 5, 0},
	} {
		w := ofText(t, x.text)
		path, loop, e := lasso.Of(w.Rel, 1, []int{x.s})
		if len(path) != x.path || loop != x.loop || e != api.OK {
			t.Errorf("%s: %d, %v, %d, %d", x.text, len(path), path, loop, e)
		}
	}
}

// An event may take place at any moment of a call.
func TestEvents(t *testing.T) {
	const p = 0b11110111
	w := ofText(t, "var x : 0 .. 3; var b : bool; next x := if b then (x + 1) mod 4 else x; next b := b | x = 1; trans x = 2 -> b; fair x = 0 | x = 2; fair b;")
	set := w.Set(p)
	head := [][]int{{1, 0}, {1, 1}}
	owned := w.M.Handles()
	checks := []func(){
		func() {
			path, loop, e := lasso.Of(w.Rel, set, head[0])
			if e != api.OK || loop != 1 || w.flaw(p, head[:1], path, loop) != "" || w.M.Handles() != owned {
				t.Fatal(path, loop, e)
			}
		},
		func() {
			path, loop, e := lasso.Start(w.Rel, set, head)
			if e != api.OK || loop != 1 || w.flaw(p, head, path, loop) != "" || w.M.Handles() != owned {
				t.Fatal(path, loop, e)
			}
		},
	}
	for about, check := range checks {
		for kind := api.EvCollect; kind <= api.EvTurn; kind++ {
			for _, level := range []int{0, 3, 5} {
				after := 0
				for w.M.Waits() == 0 {
					after += 1 + after/20
					w.M.Plan(api.Event{After: after, Kind: kind, Level: level}, api.Event{After: 1, Kind: api.EvCollect})
					check()
				}
				if after < 100 {
					t.Error(about, after)
				}
				for w.M.Waits() > 0 {
					w.M.Drop(w.Set(0b1))
				}
			}
		}
	}
}

// There is a lasso exactly where layer 46 tells that there is a fair path.
func TestHull(t *testing.T) {
	r := rand.New(rand.NewSource(50))
	found, none := 0, 0
	for range 100 {
		w := world{atlas.Some(t, r, 20)}
		p := w.Set((r.Uint64() | r.Uint64()) & w.Full())
		hull := w.Right(fairs.Hull(w.Rel, p))
		w.Disturb()
		for i, s := range w.Graph.States {
			in := w.In(w.Read(hull, w.Now()), i)
			if _, _, e := lasso.Of(w.Rel, p, s); in != (e == api.OK) || !in && e != api.ErrPath {
				t.Fatal(s, in, e)
			}
			if in {
				found++
			} else {
				none++
			}
		}
	}
	if found < 150 || none < 300 {
		t.Error(found, none)
	}
}

// heads returns lists of states that are heads, and lists that are none.
func heads() (good, bad [][][]int) {
	good = [][][]int{{{0, 1}}, {{0, 1}, {1, 1}}, {{1, 0}, {2, 1}, {0, 1}}, {{2, 1}, {0, 1}, {1, 0}, {2, 1}}}
	bad = [][][]int{
		{nil}, {{}}, {{0}}, {{2, 0}}, {{0, 0, 0}}, {{-1, 0}}, {{0, 2}}, {{3, 1}}, {{math.MinInt, 1}}, {{0, math.MaxInt}}, // no states
		{{0, 1}, {0}}, {{0}, {0, 1}}, {{1, 1}, {2, 0}}, {{2, 0}, {0, 1}}, {{0, 1}, {1, 1, 1}, {2, 1}},
		{{0, 1}, {0, 1}}, {{1, 1}, {0, 1}}, {{0, 1}, {2, 1}}, {{0, 1}, {1, 1}, {0, 0}}, {{0, 0}, {1, 1}, {1, 1}, {2, 1}}, {{2, 1}, {1, 0}}, // no transitions
	}
	return good, bad
}

func TestWrongArguments(t *testing.T) {
	w := ofText(t, "var x : 0 .. 2; var b : bool; invar x = 2 -> b; next x := if x = 2 then 0 else x + 1; fair b;") // variable 6 is no bit's
	gone := w.Set(0b10)
	w.M.Drop(gone)
	later := w.Right(w.Put(0b0110, w.Next()))
	none := w.Right(w.M.Var(6))
	hidden := w.Right(w.Put(1<<15, []int{0, 2, 4, 6})) // it depends on variable 6 only where the bits are those of no state
	low := w.Set(0b00110011)                           // x < 2, so that no path stays there
	owned := w.M.Handles()
	of := func(want api.Errno, r *rel.Rel, p int, s []int) {
		t.Helper()
		if path, loop, e := lasso.Of(r, p, s); len(path) != 0 || loop != 0 || e != want || w.M.Handles() != owned {
			t.Errorf("%v: %v, %d, %d; want %d", s, path, loop, e, want)
		}
	}
	start := func(want api.Errno, r *rel.Rel, p int, head [][]int) {
		t.Helper()
		if path, loop, e := lasso.Start(r, p, head); len(path) != 0 || loop != 0 || e != want || w.M.Handles() != owned {
			t.Errorf("%v: %v, %d, %d; want %d", head, path, loop, e, want)
		}
	}
	good, bad := heads()
	for _, head := range append(append(good, bad...), nil) {
		s := slices.Concat(head...)
		of(api.ErrNone, nil, 1, s)
		of(api.ErrNone, nil, -1, s)
		start(api.ErrNone, nil, 1, head)
		start(api.ErrNone, nil, later, head)
		for _, p := range []int{gone, -1, math.MinInt, math.MaxInt} {
			of(api.ErrHandle, w.Rel, p, s)
			start(api.ErrHandle, w.Rel, p, head)
		}
		for _, p := range []int{later, none, hidden} {
			of(api.ErrArg, w.Rel, p, s)
			start(api.ErrArg, w.Rel, p, head)
		}
	}
	for _, p := range []int{0, 1, low} {
		start(api.ErrEmpty, w.Rel, p, nil)
		start(api.ErrEmpty, w.Rel, p, [][]int{})
		for _, head := range bad {
			start(api.ErrPath, w.Rel, p, head)
		}
		for _, head := range bad[:10] {
			of(api.ErrState, w.Rel, p, head[0])
		}
	}
	for _, head := range good {
		for _, p := range []int{0, low} {
			of(api.ErrPath, w.Rel, p, head[0])
			start(api.ErrPath, w.Rel, p, head)
		}
		if path, loop, e := lasso.Start(w.Rel, 1, head); w.flaw(w.Full(), head, path, loop) != "" || e != api.OK {
			t.Error(path, loop, e)
		}
	}
}

// After a call that finds no room everything is as before.
func TestLittleRoom(t *testing.T) {
	r := rand.New(rand.NewSource(51))
	failed, done := 0, 0
	for range 3000 {
		mod := sample.Module(r)
		vars := 2 * typing.Bits(mod)
		small, e := atlas.New(t, r, mod, vars, 5+r.Intn(6*vars+1))
		if e != api.OK {
			continue
		}
		w := world{small}
		p := (r.Uint64() | r.Uint64() | r.Uint64()) & w.Full()
		set, e := w.Put(p, w.Now())
		if e != api.OK {
			continue
		}
		owned, hull := w.M.Handles(), w.hull(p)
		for i, s := range w.Graph.States {
			w.Disturb()
			head := w.walk(i)
			path, loop, e := lasso.Start(w.Rel, set, head)
			switch {
			case w.M.Handles() != owned || w.Read(set, w.Now()) != p:
				t.Fatal(w.M.Handles(), owned)
			case e == api.OK && w.In(hull, i) && w.flaw(p, head, path, loop) == "":
				done++
			case len(path) != 0 || loop != 0 || e != api.ErrRoom && (e != api.ErrPath || w.In(hull, i)):
				t.Fatal(s, path, loop, e)
			case e == api.ErrRoom:
				failed++
			}
		}
	}
	if failed < 50 || done < 500 {
		t.Error(failed, done)
	}
}

// Where the room is Enough for the handles, no call fails for it.
func TestEnoughRoom(t *testing.T) {
	r := rand.New(rand.NewSource(52))
	for done := 0; done < 500; {
		mod := sample.Module(r)
		vars := 2 * typing.Bits(mod)
		if vars > 6 {
			continue
		}
		done++
		handles := 2 + 2 + len(mod.Next) + len(mod.Trans) + 1 + len(mod.Fair) + 1 // that of answers is the last one
		w, e := atlas.New(t, r, mod, vars, trial.Enough(vars, handles))
		if e != api.OK {
			t.Fatal(e)
		}
		for range 3 {
			world{w}.answers((r.Uint64() | r.Uint64()) & w.Full())
		}
	}
}

// In great models it takes few nodes to find a lasso, even if very many states or components, fair or not, lie before the nearest fair cycle, as near as that, or behind it.
func TestGreatModels(t *testing.T) {
	const (
		pairs = "var a : 0 .. 63; var b : 0 .. 63; "
		up    = "trans next(a) = a & next(b) = b + 1 | next(a) = a + 1 & b = 63 & next(b) = 0 "
		stay  = "| next(a) = a & next(b) = b "
		end   = "| a = 63 & b = 63 & next(a) = 63 & next(b) = 63 "

		idle  = "var idle : bool; var a : 0 .. 63; var b : 0 .. 31; trans idle & next(a) = a & next(b) = b | !idle & "
		step  = "(next(a) = a & next(b) = b + 1 | next(a) = a + 1 & b = 31 & next(b) = 0); "
		jump  = "(a < next(a) | next(a) = a & b < next(b)); "
		drop  = "(next(a) < a | next(a) = a & next(b) < b); "
		later = "invar idle -> 30 <= a; "

		chosen = "var on : bool; var a : 0 .. 63; var b : 0 .. 63; var c : 0 .. 63; invar !on -> a + b + c = 0; trans next(on); trans on -> next(a) = a & next(b) = b & next(c) = c "
		triple = "var a : 0 .. 63; var b : 0 .. 63; var c : 0 .. 63; "
	)
	for _, x := range []struct {
		text       string
		s          []int
		nodes      int
		path, loop int
	}{
		{pairs + up + end + ";", []int{0, 0}, 2000000, 4096, 4095},
		{pairs + up + end + ";", []int{63, 60}, 3000, 4, 3},
		{pairs + up + stay + ";", []int{0, 0}, 1500, 1, 0},
		{pairs + up + stay + "; fair a = 63 & b = 63;", []int{0, 0}, 1500000, 4096, 4095},
		{pairs + up + stay + "; fair b = 63;", []int{0, 0}, 40000, 64, 63},
		{pairs + up + stay + end + "; fair b = 63 & a = 20;", []int{0, 0}, 600000, 1344, 1343},
		{idle + step + "fair idle;", []int{0, 0, 0}, 3000, 2, 1},
		{idle + step + later + "fair idle;", []int{0, 0, 0}, 500000, 961, 960},
		{idle + step + later, []int{0, 0, 0}, 500000, 961, 960},
		{idle + jump, []int{0, 0, 0}, 4000, 2, 1},
		{idle + jump + later + "fair idle;", []int{0, 0, 0}, 100000, 2, 1},
		{idle + drop, []int{0, 63, 31}, 4000, 2, 1},
		{idle + drop + "invar idle -> a <= 30;", []int{0, 63, 31}, 100000, 2, 1},
		{chosen + ";", []int{0, 0, 0, 0}, 2000, 2, 1},
		{chosen + "| next(a) = a + 1 & next(c) = b | next(a) = 0 & next(b) = c + 1;", []int{0, 0, 0, 0}, 4000, 2, 1},
		{triple + "next a := b; next b := c; fair a < b; fair b < c; fair c < a;", []int{0, 0, 0}, 80000, 4, 0},
		{triple + "next a := b; next b := (c + 1) mod 64; fair a = 5 & b = 9; fair c = 17; fair b = 50;", []int{0, 0, 0}, 15000, 9, 0},
	} {
		gives(t, x.text, x.s, x.nodes, x.path, x.loop)
	}
}

// gives checks the numbers of a lasso within all states of a model, and that no more than so many nodes are asked for.
func gives(t *testing.T, s string, from []int, nodes, states, start int) {
	t.Helper()
	mod := sample.Model(t, s)
	m, e := dd.New(2*typing.Bits(mod), 1<<18)
	if e != api.OK {
		t.Fatal(e)
	}
	r, e := rel.New(m, mod)
	if e != api.OK {
		t.Fatal(s, e)
	}
	owned := m.Handles()
	m.Plan(api.Event{After: nodes, Kind: api.EvCollect})
	path, loop, e := lasso.Of(r, r.Valid(), from)
	if len(path) != states || loop != start || e != api.OK || !paths.Lasso(r.Module(), path, loop) || m.Handles() != owned {
		t.Errorf("%s: %d, %d, %d", s, len(path), loop, e)
	}
	if m.Waits() == 0 {
		t.Errorf("%s takes more than %d nodes", s, nodes)
	}
}

// There is no limit of steps: here all states but the first one of a chain of 4097 are on one cycle.
func TestManySteps(t *testing.T) {
	closed := strings.Replace(sample.Chain, "trans !c;", "fair c; fair a = 0 & b = 1;", 1)
	gives(t, closed, []int{0, 0, 0}, math.MaxInt, 4097, 1)
	gives(t, closed, []int{0, 7, 9}, math.MaxInt, 4096, 0)
}

// The states of a lasso are in memory of their own.
func TestNewMemory(t *testing.T) {
	w := ofText(t, "var x : 0 .. 3; var y : 0 .. 3; next x := if x < 3 then x + 1 else 1; next y := y; fair x = 2;")
	for range 2 {
		head := [][]int{append(make([]int, 0, 9), 0, 1), {1, 1}, append(make([]int, 0, 9), 2, 1)}
		path, loop, e := lasso.Start(w.Rel, 1, head)
		if !slices.EqualFunc(path, [][]int{{0, 1}, {1, 1}, {2, 1}, {3, 1}, {1, 1}}, slices.Equal) || loop != 2 || e != api.OK {
			t.Fatal(path, loop, e)
		}
		for i := range path {
			row := append(path[i], 9)
			row[0], path[i][1] = 9, 9
			for k := i + 1; k < len(path); k++ {
				if path[k][0] == 9 || path[k][1] != 1 {
					t.Fatal(path)
				}
			}
		}
		if !slices.EqualFunc(head, [][]int{{0, 1}, {1, 1}, {2, 1}}, slices.Equal) || head[0][:3][2] != 0 || head[2][:3][2] != 0 {
			t.Error("memory in common with an argument")
		}
	}
}
