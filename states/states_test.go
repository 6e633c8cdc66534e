package states_test

import (
	"maps"
	"math"
	"math/rand"
	"slices"
	"testing"

	"voussoir/api"
	"voussoir/atlas"
	"voussoir/cnt"
	"voussoir/dd"
	"voussoir/ops"
	"voussoir/rel"
	"voussoir/sample"
	"voussoir/states"
	"voussoir/trial"
	"voussoir/typing"
)

// world is a world in which it can be told by enumeration what is wanted.
type world struct{ atlas.World }

// ofText returns the world of the model with that text.
func ofText(t *testing.T, s string) world {
	t.Helper()
	return world{atlas.Of(t, rand.New(rand.NewSource(1)), s)}
}

// members returns the states of a set in order.
func (w world) members(values uint64) (l [][]int) {
	for i, s := range w.Graph.States {
		if w.In(values, i) {
			l = append(l, s)
		}
	}
	return l
}

// valuesOf returns the values that variable i has in the states of a list.
func valuesOf(l [][]int, i int) (values []int) {
	for _, s := range l {
		values = append(values, s[i])
	}
	slices.Sort(values)
	return slices.Compact(values)
}

// small returns a small number as a Nat.
func small(n int) cnt.Nat {
	return cnt.Of(uint64(n))
}

// gets returns a check that a call has answered so and has left no handle.
func gets[T any](w world, about string, want ...T) func(l []T, e api.Errno) {
	return fails(w, about, api.OK, want...)
}

// fails returns a check that a call has answered that error beside that list, and has left no handle.
func fails[T any](w world, about string, fault api.Errno, want ...T) func(l []T, e api.Errno) {
	owned := w.M.Handles()
	same := func(a, b T) bool {
		switch a := any(a).(type) {
		case []int:
			return slices.Equal(a, any(b).([]int))
		}
		return any(a) == any(b)
	}
	return func(l []T, e api.Errno) {
		w.T.Helper()
		if !slices.EqualFunc(l, want, same) || e != fault || w.M.Handles() != owned {
			w.T.Fatalf("%s: %v, %d; want %v, %d; %v", about, l, e, want, fault, w.Rel.Module())
		}
	}
}

// isCount is gets for a number.
func (w world) isCount(about string, want cnt.Nat) func(n cnt.Nat, e api.Errno) {
	check := gets(w, about, want...)
	return func(n cnt.Nat, e api.Errno) {
		w.T.Helper()
		check(n, e)
	}
}

// mosts returns limits for a list of that length.
func mosts(many int) []int {
	return []int{math.MinInt, -1, 0, 1, 2, many - 1, many, many + 1, math.MaxInt}
}

// answers checks what all functions answer for a set with that table, disturbed before each call.
func (w world) answers(values uint64, disturb func()) {
	w.T.Helper()
	set := w.Set(values)
	want := w.members(values)
	disturb()
	w.isCount("Count", small(len(want)))(states.Count(w.Rel, set))
	for i, s := range w.Graph.States {
		place, in := slices.BinarySearchFunc(want, s, slices.Compare[[]int])
		disturb()
		w.Asks("Has", w.In(values, i))(states.Has(w.Rel, set, s))
		disturb()
		if !in {
			fails[uint32](w, "Place", api.ErrState)(states.Place(w.Rel, set, s))
			continue
		}
		w.isCount("Place", small(place))(states.Place(w.Rel, set, s))
		disturb()
		gets(w, "At", s...)(states.At(w.Rel, set, small(place)))
	}
	for _, k := range []cnt.Nat{small(len(want)), small(len(want) + 1), small(math.MaxUint32), cnt.Shift(small(1), 99)} {
		fails[int](w, "At", api.ErrRange)(states.At(w.Rel, set, k))
	}
	for _, most := range mosts(len(want)) {
		disturb()
		gets(w, "List", want[:min(max(most, 0), len(want))]...)(states.List(w.Rel, set, most))
	}
	for i := range w.Rel.Module().Vars {
		disturb()
		gets(w, "Values", valuesOf(want, i)...)(states.Values(w.Rel, set, i))
	}
	disturb()
	w.GivesSet("Of", values&w.States())(states.Of(w.Rel, want...))
	if w.Read(set, w.Now()) != values {
		w.T.Fatal("a set has changed")
	}
	w.M.Drop(set)
}

func TestTheExample(t *testing.T) {
	w := ofText(t, "var x : 0 .. 2; var b : bool;")
	w.isCount("Count", small(6))(states.Count(w.Rel, 1))
	gets(w, "At", 1, 0)(states.At(w.Rel, 1, small(2)))
	w.isCount("Place", small(5))(states.Place(w.Rel, 1, []int{2, 1}))
	gets(w, "List", []int{0, 0}, []int{0, 1}, []int{1, 0})(states.List(w.Rel, 1, 3))
	h, e := states.Of(w.Rel, []int{2, 0}, []int{0, 0})
	w.Right(h, e)
	gets(w, "Values", 0, 2)(states.Values(w.Rel, h, 0))
}

func TestRandomModels(t *testing.T) {
	r := rand.New(rand.NewSource(53))
	many, wide := 0, 0
	for range 300 {
		w := world{atlas.Some(t, r, 8)}
		owned := w.M.Handles()
		w.answers(r.Uint64()&w.Full(), w.Disturb)
		w.answers(r.Uint64()&r.Uint64()&w.Full(), w.Disturb)
		w.answers(0, w.Disturb)
		w.answers(w.Full(), w.Disturb)
		if w.M.Handles() != owned {
			t.Fatal(w.M.Handles(), owned)
		}
		if len(w.Graph.States) > 9 {
			many++
		}
		if slices.ContainsFunc(w.Rel.Module().Vars, func(v api.Var) bool { return typing.Span(v) > 3 && v.Lo < 0 }) {
			wide++
		}
	}
	if many < 30 || wide < 40 {
		t.Error(many, wide)
	}
}

// Models without bits, states or variables, and such in which the order of states is not that of their bits.
func TestModels(t *testing.T) {
	for _, s := range []string{
		"",
		"invar false;",
		"var k : 7 .. 7;",
		"var k : 7 .. 7; var l : -1 .. -1; invar k = l;",
		"var k : 7 .. 7; var b : bool; var l : -1 .. -1;",
		"var x : bool; invar false;",
		"var x : 0 .. 63;",
		"var x : -31 .. 32; invar x mod 3 != 1;",
		"var x : 0 .. 32;",
		"var a : bool; var b : bool; var c : bool; var d : bool;",
		"var a : 0 .. 7; var b : 0 .. 7;",
		"var a : -3 .. 3; var b : 5 .. 9; invar a != 0 | b = 6;",
		"var a : 1 .. 3; var b : 1 .. 3; var c : 1 .. 3; invar a < b | b < c;",
	} {
		w := ofText(t, s)
		for range 3 {
			w.answers(w.R.Uint64()&w.Full(), w.Disturb)
		}
		w.answers(0, w.Disturb)
		w.answers(w.Full(), w.Disturb)
	}
}

// The values of the bits of no state do not count.
func TestBitsOfNoState(t *testing.T) {
	w := ofText(t, "var x : 0 .. 2; var b : bool; invar x = 2 -> b;")
	if w.States() != 0b01110011 {
		t.Fatalf("%b", w.States())
	}
	for values := range uint64(256) {
		w.answers(values, w.Disturb)
	}
}

// An event may take place at any moment of a call.
func TestEvents(t *testing.T) {
	const values = 0b10110111
	w := ofText(t, "var x : 0 .. 2; var b : bool; invar x = 2 -> b;")
	set, want := w.Set(values), w.members(values)
	if len(want) != 4 {
		t.Fatal(want)
	}
	for about, check := range map[string]func(){
		"Count":  func() { w.isCount("Count", small(4))(states.Count(w.Rel, set)) },
		"At":     func() { gets(w, "At", want[2]...)(states.At(w.Rel, set, small(2))) },
		"Place":  func() { w.isCount("Place", small(3))(states.Place(w.Rel, set, want[3])) },
		"List":   func() { gets(w, "List", want[:3]...)(states.List(w.Rel, set, 3)) },
		"Values": func() { gets(w, "Values", valuesOf(want, 1)...)(states.Values(w.Rel, set, 1)) },
		"Of":     func() { w.GivesSet("Of", values&w.States())(states.Of(w.Rel, want...)) },
	} {
		for kind := api.EvCollect; kind <= api.EvTurn; kind++ {
			for _, level := range []int{0, 2, 4, 5} {
				after := 0
				for w.M.Waits() == 0 {
					after++
					w.M.Plan(api.Event{After: after, Kind: kind, Level: level}, api.Event{After: 1, Kind: api.EvCollect})
					check()
				}
				if after < 2 {
					t.Error(about, after)
				}
				for w.M.Waits() > 0 {
					w.M.Drop(w.Set(0b1))
				}
			}
		}
	}
}

func TestDerivedProperties(t *testing.T) {
	r := rand.New(rand.NewSource(54))
	met := 0
	for range 200 {
		w := world{atlas.Some(t, r, 8)}
		set := w.Set(r.Uint64() & w.Full())
		w.Disturb()
		l, e1 := states.List(w.Rel, set, api.MaxRows)
		n, e2 := states.Count(w.Rel, set)
		if e1 != api.OK || e2 != api.OK || !slices.Equal(n, small(len(l))) {
			t.Fatal(len(l), n, e1, e2)
		}
		for k, s := range l {
			met++
			gets(w, "At", s...)(states.At(w.Rel, set, small(k)))
			w.isCount("Place", small(k))(states.Place(w.Rel, set, s))
		}
		back := w.Right(states.Of(w.Rel, l...))
		w.Same("Of the list", back, w.Right(ops.And(w.M, set, w.Rel.Valid())))
		for i := range w.Rel.Module().Vars {
			gets(w, "Values", valuesOf(l, i)...)(states.Values(w.Rel, back, i))
		}
	}
	if met < 300 {
		t.Error(met)
	}
}

// Of takes states in any order, and more than once.
func TestOf(t *testing.T) {
	r := rand.New(rand.NewSource(55))
	for range 200 {
		w := ofText(t, "var a : -3 .. 3; var b : 5 .. 9; invar a != 0 | b = 6;")
		values := uint64(0)
		var l [][]int
		for range r.Intn(40) {
			i := r.Intn(len(w.Graph.States))
			values |= w.One(i)
			l = append(l, w.Graph.States[i])
		}
		before := slices.Clone(l)
		w.GivesSet("Of", values)(states.Of(w.Rel, l...))
		if !slices.EqualFunc(l, before, slices.Equal[[]int]) {
			t.Fatal("the argument has changed")
		}
	}
}

// calls returns calls of all functions that take a set; what they answer is told by its length.
func calls(s []int, i int) map[string]func(r *rel.Rel, set int) (int, api.Errno) {
	return map[string]func(r *rel.Rel, set int) (int, api.Errno){
		"Count":  func(r *rel.Rel, set int) (int, api.Errno) { return length(states.Count(r, set)) },
		"At":     func(r *rel.Rel, set int) (int, api.Errno) { return length(states.At(r, set, small(99))) },
		"Place":  func(r *rel.Rel, set int) (int, api.Errno) { return length(states.Place(r, set, s)) },
		"List":   func(r *rel.Rel, set int) (int, api.Errno) { return length(states.List(r, set, 99)) },
		"Values": func(r *rel.Rel, set int) (int, api.Errno) { return length(states.Values(r, set, i)) },
		"Has": func(r *rel.Rel, set int) (int, api.Errno) {
			yes, e := states.Has(r, set, s)
			if yes {
				return 1, e
			}
			return 0, e
		},
	}
}

// length returns the length of what a call has answered.
func length[T any, L ~[]T](l L, e api.Errno) (int, api.Errno) {
	return len(l), e
}

func TestWrongArguments(t *testing.T) {
	w := ofText(t, "var x : 0 .. 2; var b : bool; invar x = 2 -> b;") // variable 6 is no bit's
	gone := w.Set(0b10)
	w.M.Drop(gone)
	later := w.Right(w.Put(0b0110, w.Next()))
	none := w.Right(w.M.Var(6))
	hidden := w.Right(w.Put(1<<15, []int{0, 2, 4, 6})) // it depends on variable 6 only where the bits are those of no state
	set := w.Set(0b1)
	state, strange := []int{2, 1}, [][]int{nil, {}, {0}, {2, 0}, {0, 0, 0}, {-1, 0}, {0, 2}, {3, 1}, {math.MinInt, 1}, {0, math.MaxInt}}
	for _, s := range append(strange, state) {
		for _, i := range []int{math.MinInt, -1, 0, 1, 2, math.MaxInt} {
			for about, call := range calls(s, i) {
				for _, bad := range []int{gone, -1, math.MinInt, math.MaxInt} {
					w.Fails(about, api.ErrNone)(call(nil, bad))
					w.Fails(about, api.ErrHandle)(call(w.Rel, bad))
				}
				w.Fails(about, api.ErrNone)(call(nil, 0))
				w.Fails(about, api.ErrArg)(call(w.Rel, later))
				w.Fails(about, api.ErrArg)(call(w.Rel, none))
				w.Fails(about, api.ErrArg)(call(w.Rel, hidden))
			}
		}
		w.Fails("Of", api.ErrNone)(states.Of(nil, s))
	}
	w.Fails("Of", api.ErrNone)(states.Of(nil))
	for _, s := range strange {
		for _, h := range []int{0, 1, set} {
			w.Fails("Has", api.ErrState)(calls(s, 0)["Has"](w.Rel, h))
			w.Fails("Place", api.ErrState)(calls(s, 0)["Place"](w.Rel, h))
		}
		w.Fails("Of", api.ErrState)(states.Of(w.Rel, s))
		w.Fails("Of", api.ErrState)(states.Of(w.Rel, state, s, state))
		w.Fails("Of", api.ErrState)(states.Of(w.Rel, s, state))
	}
	w.Fails("Place", api.ErrState)(calls(state, 0)["Place"](w.Rel, set))
	for _, i := range []int{math.MinInt, -1, 2, 3, math.MaxInt} {
		fails[int](w, "Values", api.ErrRange)(states.Values(w.Rel, 1, i))
		fails[int](w, "Values", api.ErrRange)(states.Values(w.Rel, 0, i))
	}
	fails[int](w, "At", api.ErrRange)(states.At(w.Rel, 0, nil))
	// Numbers need not be normalized.
	gets(w, "At", 0, 1)(states.At(w.Rel, 1, append(small(1), 0, 0)))
	fails[int](w, "At", api.ErrRange)(states.At(w.Rel, 1, append(small(1), 0, 1)))
}

// After a call that finds no room everything is as before. What has to do with an argument alone is told all the same.
func TestLittleRoom(t *testing.T) {
	r := rand.New(rand.NewSource(56))
	failed, done := map[string]int{}, map[string]int{}
	for range 4000 {
		mod := sample.Module(r)
		vars := 2 * typing.Bits(mod)
		small, e := atlas.New(t, r, mod, vars, 5+r.Intn(4*vars+1))
		if e != api.OK || len(small.Graph.States) == 0 {
			continue
		}
		w := world{small}
		values := r.Uint64() & w.Full()
		set, e := w.Put(values, w.Now())
		if e != api.OK {
			continue
		}
		want := w.members(values)
		for range 20 { // little room is left after that
			w.Put(r.Uint64()&w.Full(), w.Now())
		}
		w.Disturb()
		owned := w.M.Handles()
		s, i := r.Intn(len(w.Graph.States)), r.Intn(len(mod.Vars)+1)-1
		all := calls(w.Graph.States[s], i)
		all["Of"] = func(*rel.Rel, int) (int, api.Errno) {
			h, e := states.Of(w.Rel, want...)
			if e == api.OK && w.Read(h, w.Now()) != values&w.States() {
				t.Fatal("Of: the wrong set")
			}
			w.M.Drop(h)
			return 0, e
		}
		all["List"] = func(*rel.Rel, int) (int, api.Errno) {
			l, e := states.List(w.Rel, set, 99)
			if e == api.OK && !slices.EqualFunc(l, want, slices.Equal[[]int]) {
				t.Fatal("List:", l, want)
			}
			return len(l), e
		}
		for _, about := range slices.Sorted(maps.Keys(all)) {
			n, e := all[about](w.Rel, set)
			switch {
			case about == "Values" && i < 0 && e != api.ErrRange, about == "Place" && !w.In(values, s) && e != api.ErrState:
				t.Fatal(about, e)
			case w.M.Handles() != owned || w.Read(set, w.Now()) != values || e != api.OK && n != 0:
				t.Fatal(about, n, e, w.M.Handles(), owned)
			case e == api.ErrRoom:
				failed[about]++
			default:
				done[about]++
			}
		}
	}
	for _, about := range []string{"Count", "At", "Place", "List", "Values", "Of"} {
		if failed[about] < 20 || done[about] < 200 {
			t.Error(about, failed[about], done[about])
		}
	}
	if failed["Has"] > 0 {
		t.Error(failed["Has"])
	}
}

// Where the room is Enough for the handles, no call fails for it.
func TestEnoughRoom(t *testing.T) {
	r := rand.New(rand.NewSource(57))
	for done := 0; done < 400; {
		mod := sample.Module(r)
		vars := 2 * typing.Bits(mod)
		if vars > 6 {
			continue
		}
		done++
		handles := 2 + 2 + len(mod.Next) + len(mod.Trans) + 1 + len(mod.Fair) + 1 // that of answers is the last one
		w, e := atlas.New(t, r, mod, vars, trial.Enough(vars, handles))
		if e != api.OK {
			t.Fatal(e)
		}
		for range 3 {
			world{w}.answers(r.Uint64()&w.Full(), w.Disturb)
		}
	}
}

// A set may have far more states than can be listed.
func TestManyStates(t *testing.T) {
	mod := sample.Model(t, "var a : -30 .. 30; var b : 0 .. 50; var p : bool; var c : 0 .. 63; var d : 1 .. 64; var e : 0 .. 16; invar p -> a = 7;")
	bits := typing.Bits(mod)
	if bits != 30 {
		t.Fatal(bits)
	}
	m, e := dd.New(2*bits, 1<<16)
	if e != api.OK {
		t.Fatal(e)
	}
	r, e := rel.New(m, mod)
	if e != api.OK {
		t.Fatal(e)
	}
	w := world{atlas.World{World: &trial.World{T: t, M: m, R: rand.New(rand.NewSource(58))}, Rel: r}}
	// For each a but 7 there are 51 values of b, for 7 there are twice as many of b and p; each goes with the values of c, d and e.
	const tail, plain = 64 * 64 * 17, 51
	const count = 62 * plain * tail
	for range 3 {
		w.isCount("Count", small(count))(states.Count(r, 1))
		gets(w, "At", -30, 0, 0, 0, 1, 0)(states.At(r, 1, nil))
		gets(w, "At", 30, 50, 0, 63, 64, 16)(states.At(r, 1, small(count-1)))
		fails[int](w, "At", api.ErrRange)(states.At(r, 1, small(count)))
		w.isCount("Place", small((37*plain+2*3+1)*tail+(5*64+6)*17+8))(states.Place(r, 1, []int{7, 3, 1, 5, 7, 8}))
		gets(w, "At", 7, 3, 1, 5, 7, 8)(states.At(r, 1, small((37*plain+2*3+1)*tail+(5*64+6)*17+8)))
		for range 20 {
			k := w.R.Intn(count)
			s, e := states.At(r, 1, small(k))
			if len(s) != 6 || e != api.OK {
				t.Fatal(s, e)
			}
			w.isCount("Place", small(k))(states.Place(r, 1, s))
		}
		for _, most := range []int{api.MaxRows - 1, api.MaxRows, api.MaxRows + 1, math.MaxInt} {
			l, e := states.List(r, 1, most)
			if len(l) != min(most, api.MaxRows) || e != api.OK {
				t.Fatal(len(l), e)
			}
			for k, s := range l {
				if !slices.Equal(s, []int{-30, 0, 0, k / 17 / 64, k/17%64 + 1, k % 17}) {
					t.Fatal(k, s)
				}
			}
		}
		h := w.Right(states.Of(r, []int{7, 50, 1, 63, 64, 16}, []int{-30, 0, 0, 0, 1, 0}, []int{7, 49, 1, 63, 64, 16}))
		gets(w, "List", []int{-30, 0, 0, 0, 1, 0}, []int{7, 49, 1, 63, 64, 16}, []int{7, 50, 1, 63, 64, 16})(states.List(r, h, 9))
		gets(w, "Values", 0, 49, 50)(states.Values(r, h, 1))
		gets(w, "Values", 0, 1)(states.Values(r, 1, 2))
		w.M.Drop(h)
		w.Disturb()
		w.M.Swap(30)
	}
}

// Lists and states are in memory of their own.
func TestNewMemory(t *testing.T) {
	w := ofText(t, "var x : 0 .. 2; var y : 0 .. 2;")
	l, e := states.List(w.Rel, 1, 99)
	if len(l) != 9 || e != api.OK {
		t.Fatal(l, e)
	}
	for i := range l {
		row := append(l[i], 9)
		row[0], l[i][1] = 9, 9
		for k := i + 1; k < len(l); k++ {
			if !slices.Equal(l[k], []int{k / 3, k % 3}) {
				t.Fatal(l)
			}
		}
	}
}
