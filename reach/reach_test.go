package reach_test

import (
	"maps"
	"math"
	"math/rand"
	"slices"
	"testing"

	"voussoir/api"
	"voussoir/atlas"
	"voussoir/blast"
	"voussoir/cnt"
	"voussoir/dd"
	"voussoir/ops"
	"voussoir/reach"
	"voussoir/rel"
	"voussoir/sample"
	"voussoir/satc"
	"voussoir/trial"
	"voussoir/typing"
)

// world is a world in which it can be told by enumeration what is wanted.
type world struct{ atlas.World }

// ofText returns the world of the model with that text.
func ofText(t *testing.T, s string) world {
	t.Helper()
	return world{atlas.Of(t, rand.New(rand.NewSource(1)), s)}
}

// indices returns those of the states of a set.
func (w world) indices(values uint64) (l []int) {
	for i := range w.Graph.States {
		if w.In(values, i) {
			l = append(l, i)
		}
	}
	return l
}

// all and back say what is wanted.
func (w world) all(values uint64) uint64 {
	reached := w.Graph.Reach(w.indices(values)...)
	return w.Where(func(i int) bool { return reached[i] })
}

func (w world) back(values uint64) uint64 {
	reversed := w.Graph
	reversed.Next = w.Graph.Prev()
	reached := reversed.Reach(w.indices(values)...)
	return w.Where(func(i int) bool { return reached[i] })
}

// frontiers returns the tables that Rings is to come to.
func (w world) frontiers(values uint64) (l []uint64) {
	met := uint64(0)
	for values &= w.States(); values != 0; values = w.Post(values) &^ met {
		l = append(l, values)
		met |= values
	}
	return l
}

// path returns the first one, in order, of the shortest paths between two sets, by trying out all paths. It returns nil if there is none.
func (w world) path(from, to uint64) [][]int {
	for steps := range len(w.Graph.States) {
		vain := map[[2]int]bool{} // states from which the steps that are left don't lead to a state of the other set
		var try func(i, left int) [][]int
		try = func(i, left int) (rest [][]int) {
			if left == 0 && !w.In(to, i) || vain[[2]int{i, left}] {
				return nil
			}
			if left == 0 {
				return [][]int{w.Graph.States[i]}
			}
			for _, k := range w.Graph.Next[i] {
				if rest := try(k, left-1); rest != nil {
					return append([][]int{w.Graph.States[i]}, rest...)
				}
			}
			vain[[2]int{i, left}] = true
			return nil
		}
		for _, i := range w.indices(from) {
			if found := try(i, steps); found != nil {
				return found
			}
		}
	}
	return nil
}

// isRings checks what Rings answers for a set with that table.
func (w world) isRings(from int, values uint64, most int) {
	w.T.Helper()
	want := w.frontiers(values)
	cut := want[:min(max(most, 0), len(want))]
	owned := w.M.Handles()
	l, whole, e := reach.Rings(w.Rel, from, most)
	if len(l) != len(cut) || whole != (len(cut) == len(want)) || e != api.OK || w.M.Handles() != owned+len(l) {
		w.T.Fatalf("Rings of %x, at most %d: %v, %v, %d; want %x of %x", values, most, l, whole, e, cut, want)
	}
	for n, h := range l {
		if got := w.Read(w.Right(h, e), w.Now()); got != cut[n] || slices.Contains(l[:n], h) {
			w.T.Fatalf("frontier %d of %x: %x; want %x", n, values, got, cut[n])
		}
	}
	w.M.Drop(l...)
}

// isFar checks what Far answers for a state of the graph.
func (w world) isFar(from int, values uint64, i int) {
	w.T.Helper()
	wanted, fails := slices.IndexFunc(w.frontiers(values), func(f uint64) bool { return w.In(f, i) }), api.OK
	if wanted < 0 {
		wanted, fails = 0, api.ErrPath
	}
	owned := w.M.Handles()
	n, e := reach.Far(w.Rel, from, w.Graph.States[i])
	if n != wanted || e != fails || w.M.Handles() != owned {
		w.T.Fatalf("Far of %v from %x: %d, %d; want %d, %d", w.Graph.States[i], values, n, e, wanted, fails)
	}
}

// isPath checks what Path answers.
func (w world) isPath(from, to int, start, end uint64) (steps int) {
	w.T.Helper()
	wanted, fails := w.path(start, end), api.OK
	if wanted == nil {
		fails = api.ErrPath
	}
	owned := w.M.Handles()
	l, e := reach.Path(w.Rel, from, to)
	if !slices.EqualFunc(l, wanted, slices.Equal[[]int]) || e != fails || w.M.Handles() != owned {
		w.T.Fatalf("Path from %x to %x: %v, %d; want %v, %d", start, end, l, e, wanted, fails)
	}
	return len(l) - 1
}

// answers checks what all functions answer, and returns the number of transitions of the path.
func (w world) answers(from, to uint64) (steps int) {
	w.T.Helper()
	f, t := w.Set(from), w.Set(to)
	for _, most := range []int{0, 1, w.R.Intn(5), math.MaxInt} {
		w.Disturb()
		w.isRings(f, from, most)
	}
	w.Disturb()
	w.GivesSet("All", w.all(from))(reach.All(w.Rel, f))
	w.Disturb()
	w.GivesSet("Back", w.back(to))(reach.Back(w.Rel, t))
	for i := range w.Graph.States {
		if w.R.Intn(4) == 0 {
			w.Disturb()
			w.isFar(f, from, i)
		}
	}
	w.Disturb()
	steps = w.isPath(f, t, from, to)
	if w.Read(f, w.Now()) != from || w.Read(t, w.Now()) != to {
		w.T.Fatal("a set has changed")
	}
	w.M.Drop(f, t)
	return steps
}

func TestTheExample(t *testing.T) {
	w := ofText(t, "var x : 0 .. 2; next x := if x = 2 then 0 else x + 1;")
	zero, two := w.Set(0b001), w.Set(0b100)
	l, whole, e := reach.Rings(w.Rel, zero, 9)
	if len(l) != 3 || !whole || e != api.OK {
		t.Fatal(l, whole, e)
	}
	for n, h := range l {
		if got := w.Read(h, w.Now()); got != 1<<n {
			t.Errorf("frontier %d: %b", n, got)
		}
	}
	if n, e := reach.Far(w.Rel, zero, []int{2}); n != 2 || e != api.OK {
		t.Error(n, e)
	}
	path, e := reach.Path(w.Rel, zero, two)
	if !slices.EqualFunc(path, [][]int{{0}, {1}, {2}}, slices.Equal[[]int]) || e != api.OK {
		t.Error(path, e)
	}
	w.GivesSet("Back", 0b111)(reach.Back(w.Rel, zero))
}

func TestRandomModels(t *testing.T) {
	r := rand.New(rand.NewSource(44))
	long, none := 0, 0
	for range 200 {
		w := world{atlas.Some(t, r, 10)}
		owned := w.M.Handles()
		for range 6 {
			from, to := r.Uint64()&w.Full(), r.Uint64()&r.Uint64()&w.Full()
			if n := len(w.Graph.States); n > 0 && r.Intn(2) == 0 {
				from = w.One(r.Intn(n))
				frontiers := w.frontiers(from)
				to = frontiers[len(frontiers)-1]
			}
			switch steps := w.answers(from, to); {
			case steps < 0:
				none++
			case steps > 1:
				long++
			}
		}
		w.answers(w.Full(), 0)
		w.answers(0, w.Full())
		if w.M.Handles() != owned {
			t.Fatal(w.M.Handles(), owned)
		}
	}
	if long < 30 || none < 300 {
		t.Error(long, none)
	}
}

// In these models paths are longer, and there are several ways to go.
func TestModels(t *testing.T) {
	for text, least := range map[string]int{
		"":                0,
		"invar false;":    -1,
		"var k : 7 .. 7;": 0,
		"trans false;":    0,
		"var x : 0 .. 2;": 1,
		"var x : 0 .. 31; next x := (5 * x + 3) mod 32;":                                                                       20,
		"var x : 0 .. 31; trans next(x) = x + 2 | next(x) = x - 3;":                                                            10,
		"var x : -20 .. 20; trans next(x) = x + 7 | next(x) = x - 5;":                                                          10,
		"var a : 0 .. 5; var b : 0 .. 5; trans a = next(a) & next(b) = b + 1 | b = next(b) & next(a) = a + 1;":                 6,
		"var a : 0 .. 4; var b : 0 .. 4; trans next(a) + next(b) = a + b + 1; invar a != 2 | b = 2;":                           4,
		"var x : 0 .. 6; var b : bool; next x := if b then x + 1 else x; invar x = 3 -> b; trans b -> !next(b) | next(x) < 4;": 4,
	} {
		w := ofText(t, text)
		longest := -1
		for range 20 {
			from, to := w.R.Uint64()&w.Full(), w.R.Uint64()&w.Full()
			if n := len(w.Graph.States); n > 0 && w.R.Intn(8) > 0 {
				from, to = w.One(w.R.Intn(n)), w.One(w.R.Intn(n))|from&to&(w.R.Uint64()<<32)
			}
			longest = max(longest, w.answers(from, to))
		}
		if longest < least {
			t.Errorf("%s: the longest path has %d transitions", text, longest)
		}
	}
}

// The values of the bits of no state do not count.
func TestBitsOfNoState(t *testing.T) {
	w := ofText(t, "var x : 0 .. 2; var b : bool; invar x = 2 -> b; next x := if x = 2 then 0 else x + 1;")
	if w.States() != 0b01110011 {
		t.Fatalf("%b", w.States())
	}
	for values := range uint64(256) {
		w.answers(values, values*37&0xff)
		w.answers(values&^w.States(), values)
		w.answers(values, values&^w.States())
	}
}

// An event may take place at any moment of a call.
func TestEvents(t *testing.T) {
	const from, to = 0b01000001, 0b00010000
	w := ofText(t, "var x : 0 .. 2; var b : bool; invar x = 2 -> b; next x := if x = 2 then 0 else x + 1; trans next(b) = b | x = 2;")
	f, g := w.Set(from), w.Set(to)
	for about, check := range map[string]func(){
		"Rings": func() { w.isRings(f, from, 9) },
		"All":   func() { w.GivesSet("All", w.all(from))(reach.All(w.Rel, f)) },
		"Back":  func() { w.GivesSet("Back", w.back(to))(reach.Back(w.Rel, g)) },
		"Far":   func() { w.isFar(f, from, 2) },
		"Path":  func() { w.isPath(g, f, to, from) },
	} {
		for kind := api.EvCollect; kind <= api.EvTurn; kind++ {
			for _, level := range []int{0, 3, 5} {
				after := 0
				for w.M.Waits() == 0 {
					after += 1 + after/20
					w.M.Plan(api.Event{After: after, Kind: kind, Level: level}, api.Event{After: 1, Kind: api.EvCollect})
					check()
				}
				if after < 5 {
					t.Error(about, after)
				}
				for w.M.Waits() > 0 {
					w.M.Drop(w.Set(0b1))
				}
			}
		}
	}
}

func TestDerivedProperties(t *testing.T) {
	r := rand.New(rand.NewSource(45))
	reachable := 0
	for range 200 {
		w := world{atlas.Some(t, r, 80)}
		h := w.Right
		f := h(ops.And(w.M, w.Set(r.Uint64()&r.Uint64()&w.Full()), w.Rel.Valid()))
		g := h(ops.And(w.M, w.Set(r.Uint64()&r.Uint64()&w.Full()), w.Rel.Valid()))
		w.Disturb()
		all, back := h(reach.All(w.Rel, f)), h(reach.Back(w.Rel, g))
		w.Same("All of All", all, h(reach.All(w.Rel, all)))
		w.Same("Back of Back", back, h(reach.Back(w.Rel, back)))
		w.Asks("from in All", true)(ops.Within(w.M, f, all))
		w.Asks("to in Back", true)(ops.Within(w.M, g, back))
		rings, whole, e := reach.Rings(w.Rel, f, 64)
		if !whole || e != api.OK {
			t.Fatal(whole, e)
		}
		w.Same("the union", all, h(ops.Or(w.M, rings...)))
		for n, ring := range rings {
			before := h(ops.Or(w.M, rings[:n]...))
			w.Asks("disjoint", false)(ops.Meets(w.M, ring, before))
			for i, s := range w.Graph.States {
				if !w.In(w.Read(ring, w.Now()), i) {
					continue
				}
				reachable++
				one := w.Set(w.One(i))
				far, e1 := reach.Far(w.Rel, f, s)
				path, e2 := reach.Path(w.Rel, f, one)
				if far != n || len(path) != n+1 || e1 != api.OK || e2 != api.OK {
					t.Fatal(n, far, path, e1, e2)
				}
			}
		}
		meets := func(a, b int) bool {
			yes, e := ops.Meets(w.M, a, b)
			if e != api.OK {
				t.Fatal(e)
			}
			return yes
		}
		_, e = reach.Path(w.Rel, f, g)
		if there := meets(all, g); there != meets(f, back) || there != (e == api.OK) {
			t.Fatal(there, e)
		}
	}
	if reachable < 300 {
		t.Error(reachable)
	}
}

// nothing is a call without a result.
func nothing[T any](l []T, e api.Errno) (int, api.Errno) {
	return len(l), e
}

// calls returns calls of all functions; those with one set take the first.
func calls(most int, s []int) map[string]func(r *rel.Rel, f, g int) (int, api.Errno) {
	return map[string]func(r *rel.Rel, f, g int) (int, api.Errno){
		"Rings": func(r *rel.Rel, f, g int) (int, api.Errno) {
			l, whole, e := reach.Rings(r, f, most)
			if whole {
				return 1, e
			}
			return nothing(l, e)
		},
		"All":  func(r *rel.Rel, f, g int) (int, api.Errno) { return reach.All(r, f) },
		"Back": func(r *rel.Rel, f, g int) (int, api.Errno) { return reach.Back(r, f) },
		"Far":  func(r *rel.Rel, f, g int) (int, api.Errno) { return reach.Far(r, f, s) },
		"Path": func(r *rel.Rel, f, g int) (int, api.Errno) { return nothing(reach.Path(r, f, g)) },
		"Path, the other way": func(r *rel.Rel, f, g int) (int, api.Errno) {
			return nothing(reach.Path(r, g, f))
		},
	}
}

func TestWrongArguments(t *testing.T) {
	w := ofText(t, "var n : 0 .. 2; next n := 2 - n;") // variable 4 is no bit's
	gone := w.Set(0b10)
	w.M.Drop(gone)
	later := w.Right(w.Put(0b0110, w.Next()))
	none := w.Right(w.M.Var(4))
	hidden := w.Right(w.Put(1<<7, []int{0, 2, 4})) // it depends on variable 4 only where the bits are those of no state
	for _, s := range [][]int{{0}, nil, {7}} {
		for _, most := range []int{0, 9} {
			for about, call := range calls(most, s) {
				for _, bad := range []int{gone, -1, math.MinInt, math.MaxInt} {
					w.Fails(about, api.ErrNone)(call(nil, bad, bad))
					w.Fails(about, api.ErrHandle)(call(w.Rel, bad, 1))
					w.Fails(about, api.ErrHandle)(call(w.Rel, bad, later))
				}
				w.Fails(about, api.ErrNone)(call(nil, 0, 1))
				for _, bad := range []int{later, none, hidden} {
					w.Fails(about, api.ErrArg)(call(w.Rel, bad, 1))
					w.Fails(about, api.ErrArg)(call(w.Rel, bad, none))
				}
			}
		}
	}
	for _, s := range [][]int{nil, {}, {-1}, {3}, {math.MinInt}, {math.MaxInt}, {0, 0}} {
		for _, set := range []int{0, 1} {
			w.Fails("Far", api.ErrState)(reach.Far(w.Rel, set, s))
		}
	}
	// The state x = 2 is one without b only.
	w = ofText(t, "var x : 0 .. 2; var b : bool; invar x = 2 -> !b;")
	w.Fails("Far", api.ErrState)(reach.Far(w.Rel, 1, []int{2, 1}))
	w.Fails("Far", api.OK)(reach.Far(w.Rel, 1, []int{2, 0}))
	w.Fails("Far", api.ErrPath)(reach.Far(w.Rel, 0, []int{2, 0}))
}

// After a call that finds no room everything is as before.
func TestLittleRoom(t *testing.T) {
	r := rand.New(rand.NewSource(46))
	failed, done := map[string]int{}, map[string]int{}
	for range 2500 {
		mod := sample.Module(r)
		vars := 2 * typing.Bits(mod)
		small, e := atlas.New(t, r, mod, vars, 5+r.Intn(6*vars+1))
		if e != api.OK || len(small.Graph.States) == 0 {
			continue
		}
		w := world{small}
		i := r.Intn(len(w.Graph.States))
		from, to := r.Uint64()&w.Full(), w.One(i)
		f, e1 := w.Put(from, w.Now())
		g, e2 := w.Put(to, w.Now())
		if e1 != api.OK || e2 != api.OK {
			continue
		}
		owned := w.M.Handles()
		all := calls(99, w.Graph.States[i])
		for _, about := range slices.Sorted(maps.Keys(all)) {
			w.Disturb()
			x, e := all[about](w.Rel, f, g)
			switch {
			case e != api.ErrRoom:
				done[about]++
			case x == 0 && w.M.Handles() == owned:
				failed[about]++
			default:
				t.Fatal(about, x, e, w.M.Handles(), owned)
			}
			if e == api.OK && (about == "All" && w.Read(x, w.Now()) != w.all(from) || about == "Back" && w.Read(x, w.Now()) != w.back(from)) {
				t.Fatal(about, "the wrong set")
			}
			for h := g + 1; w.M.Handles() > owned; h++ { // those of the results
				w.M.Drop(h)
			}
			if w.Read(f, w.Now()) != from || w.Read(g, w.Now()) != to {
				t.Fatal(about, "a set has changed")
			}
		}
	}
	for about := range calls(0, nil) {
		if failed[about] < 20 || done[about] < 300 {
			t.Error(about, failed[about], done[about])
		}
	}
}

// Where the room is Enough for the handles, no call fails for it.
func TestEnoughRoom(t *testing.T) {
	r := rand.New(rand.NewSource(47))
	for done := 0; done < 400; {
		mod := sample.Module(r)
		vars := 2 * typing.Bits(mod)
		if vars > 6 {
			continue
		}
		done++
		handles := 2 + 2 + len(mod.Next) + len(mod.Trans) + 1 + len(mod.Fair) + 2 // those of answers are the last ones
		w, e := atlas.New(t, r, mod, vars, trial.Enough(vars, handles))
		if e != api.OK {
			t.Fatal(e)
		}
		for range 3 {
			world{w}.answers(r.Uint64()&w.Full(), r.Uint64()&r.Uint64()&w.Full())
		}
	}
}

// There are as many frontiers as there may be in a list, or one more. Far and Path are not limited in the same way.
func TestManyFrontiers(t *testing.T) {
	mod := sample.Model(t, sample.Chain)
	m, e := dd.New(2*typing.Bits(mod), 1<<17)
	if e != api.OK {
		t.Fatal(e)
	}
	r, e := rel.New(m, mod)
	if e != api.OK {
		t.Fatal(e)
	}
	w := &trial.World{T: t, M: m}
	state := func(c, a, b int) int { return w.Right(blast.State(m, r.Layout(), []int{c, a, b}, false)) }
	first, second, last := state(0, 0, 0), state(0, 0, 1), state(1, 0, 0)
	for _, x := range []struct {
		from, most, many int
		whole            bool
	}{
		{first, math.MaxInt, api.MaxSteps, false},
		{first, api.MaxSteps + 1, api.MaxSteps, false},
		{second, api.MaxSteps, api.MaxSteps, true},
		{second, math.MaxInt, api.MaxSteps, true},
		{second, api.MaxSteps - 1, api.MaxSteps - 1, false},
		{first, math.MinInt, 0, false},
		{0, -1, 0, true},
	} {
		owned := m.Handles()
		l, whole, e := reach.Rings(r, x.from, x.most)
		if len(l) != x.many || whole != x.whole || e != api.OK || m.Handles() != owned+x.many {
			t.Error(x, len(l), whole, e)
		}
		m.Drop(l...)
	}
	for h, want := range map[int]int{w.Right(reach.All(r, first)): 4097, w.Right(reach.All(r, second)): 4096, w.Right(reach.Back(r, last)): 4097, w.Right(reach.Back(r, second)): 2} {
		if n, e := satc.Count(m, h, r.Layout().AllNow()...); cnt.Cmp(n, cnt.Of(uint64(want))) != 0 || e != api.OK {
			t.Error(n, e, want)
		}
	}
	if n, e := reach.Far(r, first, []int{1, 0, 0}); n != 4096 || e != api.OK {
		t.Error(n, e)
	}
	l, e := reach.Path(r, first, last)
	if len(l) != 4097 || e != api.OK {
		t.Fatal(len(l), e)
	}
	for i, s := range l {
		if i&4095 != s[1]*64+s[2] || i>>12 != s[0] {
			t.Fatal(i, s)
		}
	}
}

// The states of a path are in memory of their own.
func TestNewMemory(t *testing.T) {
	w := ofText(t, "var x : 0 .. 3; var y : 0 .. 3; next x := if x < 3 then x + 1 else 0; next y := y;")
	l, e := reach.Path(w.Rel, w.Set(0b1), w.Set(0b1000))
	if len(l) != 4 || e != api.OK {
		t.Fatal(l, e)
	}
	for i := range l {
		row := append(l[i], 9)
		row[0], l[i][1] = 9, 9
		for k := i + 1; k < len(l); k++ {
			if !slices.Equal(l[k], []int{k, 0}) {
				t.Fatal(l)
			}
		}
	}
}
