package image_test

import (
	"fmt"
	"math"
	"math/rand"
	"slices"
	"testing"

	"voussoir/api"
	"voussoir/dd"
	"voussoir/edge"
	"voussoir/graph"
	"voussoir/image"
	"voussoir/ops"
	"voussoir/rel"
	"voussoir/sample"
	"voussoir/supp"
	"voussoir/trial"
	"voussoir/typing"
	"voussoir/vset"
)

// world is a manager with the relation of a model that has at most six bits. A set is known by its table, too: bit i is the value where the bits of a state are those of i.
type world struct {
	*trial.World
	r     *rel.Rel
	g     graph.Graph
	codes []int // the bits of each state of g
	bits  int
}

// newWorld returns a world with room for so many nodes, where the relation finds room.
func newWorld(t *testing.T, r *rand.Rand, mod api.Module, vars, room int) (w world, e api.Errno) {
	t.Helper()
	w.World = trial.New(t, r, vars, room)
	w.bits = typing.Bits(mod)
	if w.g, e = graph.Of(mod); e != api.OK {
		t.Fatal(fmt.Sprint(mod), e)
	}
	for range 2 * vars {
		w.M.Swap(r.Intn(vars))
	}
	if w.r, e = rel.New(w.M, mod); e != api.OK {
		return w, e
	}
	for _, s := range w.g.States {
		b, e := w.r.Layout().Code(s)
		if e != api.OK {
			t.Fatal(s, e)
		}
		code := 0
		for i, yes := range b {
			if yes {
				code |= 1 << i
			}
		}
		w.codes = append(w.codes, code)
	}
	return w, api.OK
}

// ofText returns the world of the model with that text, with ample room and one variable that no bit has.
func ofText(t *testing.T, s string) world {
	t.Helper()
	mod := sample.Model(t, s)
	w, e := newWorld(t, rand.New(rand.NewSource(1)), mod, 2*typing.Bits(mod)+1, 20000)
	if e != api.OK {
		t.Fatal(s, e)
	}
	return w
}

func (w world) now() []int  { return w.r.Layout().AllNow() }
func (w world) next() []int { return w.r.Layout().AllNext() }

// full returns the table that is true for all bits.
func (w world) full() uint64 {
	return 1<<(1<<w.bits) - 1
}

// put returns the function whose value is that of the table at the bits that the variables have.
func (w world) put(values uint64, vars []int) (h int, e api.Errno) {
	return w.M.Do(func(x *dd.Ctx) edge.Edge {
		var build func(b int, values uint64) edge.Edge
		build = func(b int, values uint64) edge.Edge {
			if b == len(vars) {
				return edge.Zero.Flip(values&1 == 1)
			}
			lo, hi := build(b+1, trial.Cofactor(values, b, 0)), build(b+1, trial.Cofactor(values, b, 1))
			return x.Ite(x.Mk(vars[b], edge.Zero, edge.One), hi, lo)
		}
		return build(0, values)
	})
}

// set returns a new handle of a function of the current bits.
func (w world) set(values uint64) int {
	w.T.Helper()
	return w.Right(w.put(values, w.now()))
}

// table returns the table of a function of these variables.
func (w world) table(h int, vars []int) (values uint64) {
	w.T.Helper()
	if used, e := supp.Support(w.M, h); !vset.Within(used, vars) || e != api.OK {
		w.T.Fatalf("a function of %v, %d; want one of %v", used, e, vars)
	}
	for code := range 1 << len(vars) {
		l := make([]bool, w.M.Vars())
		for b, v := range vars {
			l[v] = code>>b&1 == 1
		}
		if yes, e := w.M.Eval(h, l); yes && e == api.OK {
			values |= 1 << code
		}
	}
	return values
}

// is returns a check that a call has answered a new handle of the function of these variables with that table, which is dropped.
func (w world) is(about string, want uint64, vars []int) func(h int, e api.Errno) {
	many := w.M.Handles()
	return func(h int, e api.Errno) {
		w.T.Helper()
		w.Right(h, e)
		if got := w.table(h, vars); got != want || w.M.Handles() != many+1 {
			w.T.Fatalf("%s: %x, and %d handles; want %x, and %d handles; %s", about, got, w.M.Handles(), want, many+1, fmt.Sprint(w.r.Module()))
		}
		w.M.Drop(h)
	}
}

// isSet is is for sets.
func (w world) isSet(about string, want uint64) func(h int, e api.Errno) {
	return w.is(about, want, w.now())
}

// where returns the table of the states for which a condition on their index holds.
func (w world) where(holds func(i int) bool) (values uint64) {
	for i, code := range w.codes {
		if holds(i) {
			values |= 1 << code
		}
	}
	return values
}

// has reports whether a set contains the state with that index.
func (w world) has(values uint64, i int) bool {
	return values>>w.codes[i]&1 == 1
}

// post, pre, forced and dead say what is wanted, by enumeration.
func (w world) post(values uint64) uint64 {
	return w.where(func(i int) bool {
		for k, next := range w.g.Next {
			if w.has(values, k) && slices.Contains(next, i) {
				return true
			}
		}
		return false
	})
}

func (w world) pre(values uint64) uint64 {
	return w.where(func(i int) bool {
		return slices.ContainsFunc(w.g.Next[i], func(k int) bool { return w.has(values, k) })
	})
}

func (w world) forced(values uint64) uint64 {
	return w.where(func(i int) bool {
		return !slices.ContainsFunc(w.g.Next[i], func(k int) bool { return !w.has(values, k) })
	})
}

func (w world) dead() uint64 {
	return w.where(func(i int) bool { return len(w.g.Next[i]) == 0 })
}

// answers checks what all functions answer for a set.
func (w world) answers(values uint64) {
	w.T.Helper()
	h, later := w.set(values), w.Right(w.put(values, w.next()))
	shake := func() {
		w.Disturb()
		w.Disturb()
	}
	shake()
	w.isSet("Post", w.post(values))(image.Post(w.r, h))
	shake()
	w.isSet("Pre", w.pre(values))(image.Pre(w.r, h))
	shake()
	w.isSet("Forced", w.forced(values))(image.Forced(w.r, h))
	shake()
	w.isSet("Dead", w.dead())(image.Dead(w.r))
	shake()
	w.is("Shift to next", values, w.next())(image.Shift(w.r, h, true))
	shake()
	w.is("Shift back", values, w.now())(image.Shift(w.r, later, false))
	if w.table(h, w.now()) != values || w.table(later, w.next()) != values {
		w.T.Fatal("a set has changed")
	}
	w.M.Drop(h, later)
}

func TestTheExample(t *testing.T) {
	w := ofText(t, "var n : 0 .. 2; next n := if n < 2 then n + 1 else 2;")
	low, high := w.set(0b011), w.set(0b100)
	w.isSet("Post", 0b110)(image.Post(w.r, low))
	w.isSet("Pre", 0b110)(image.Pre(w.r, high))
	w.isSet("Forced", 0b110)(image.Forced(w.r, high))
	w.isSet("Dead", 0)(image.Dead(w.r))
}

// Some states have no transitions: they are forced to go anywhere.
func TestStatesWithoutTransitions(t *testing.T) {
	w := ofText(t, "var x : 0 .. 2; next x := x + 1;")
	last := w.set(0b100)
	w.isSet("Dead", 0b100)(image.Dead(w.r))
	w.isSet("Forced", 0b100)(image.Forced(w.r, 0))
	w.isSet("Forced", 0b110)(image.Forced(w.r, last))
	w.isSet("Forced", 0b111)(image.Forced(w.r, 1))
	w.isSet("Pre", 0b011)(image.Pre(w.r, 1))
	w.isSet("Post", 0b110)(image.Post(w.r, 1))
	w.isSet("Post", 0)(image.Post(w.r, last))
	w.isSet("Post", 0)(image.Post(w.r, 0))
	w.isSet("Pre", 0)(image.Pre(w.r, 0))
}

// Bits that encode no state count for Shift only.
func TestBitsOfNoState(t *testing.T) {
	w := ofText(t, "var x : 0 .. 2; var b : bool; invar x = 2 -> b; next b := !b; trans next(x) != x;")
	const states = 0b01110011
	if got := w.table(w.r.Valid(), w.now()); got != states {
		t.Fatal(got)
	}
	for values := range uint64(256) {
		w.answers(values)
	}
	others := w.set(0xff &^ states)
	w.isSet("Pre", 0)(image.Pre(w.r, others))
	w.isSet("Post", 0)(image.Post(w.r, others))
	w.isSet("Forced", w.dead())(image.Forced(w.r, others))
}

func TestRandomModels(t *testing.T) {
	r := rand.New(rand.NewSource(43))
	steps, dead, wide := 0, 0, 0
	for done := 0; done < 400; {
		mod := sample.Module(r)
		bits := typing.Bits(mod)
		if bits > 4 && r.Intn(4) > 0 {
			continue
		}
		done++
		vars := 2*bits + r.Intn(3)
		w, e := newWorld(t, r, mod, vars, trial.Enough(vars, 2))
		if e != api.OK {
			t.Fatal(e)
		}
		if w.table(w.r.Valid(), w.now()) != w.where(func(int) bool { return true }) {
			t.Fatal("states")
		}
		owned := w.M.Handles()
		for range 4 {
			w.answers(r.Uint64() & w.full())
			w.answers(r.Uint64() & r.Uint64() & r.Uint64() & w.full())
		}
		w.answers(0)
		w.answers(w.full())
		if w.M.Handles() != owned {
			t.Fatal(owned, w.M.Handles())
		}
		w.r.Close()
		if w.M.Handles() != 2 {
			t.Fatal(w.M.Handles())
		}
		for _, next := range w.g.Next {
			steps += len(next)
			if len(next) == 0 {
				dead++
			}
		}
		if bits > 4 {
			wide++
		}
	}
	if steps < 2000 || dead < 300 || wide < 10 {
		t.Error(steps, dead, wide)
	}
}

// An event may take place at any moment of a call.
func TestEvents(t *testing.T) {
	const values = 0b01100101
	w := ofText(t, "var x : 0 .. 2; var b : bool; invar x = 2 -> b; next b := !b; trans next(x) != x;")
	set, later := w.set(values), w.Right(w.put(values, w.next()))
	for about, check := range map[string]func(){
		"Post":          func() { w.isSet("Post", w.post(values))(image.Post(w.r, set)) },
		"Pre":           func() { w.isSet("Pre", w.pre(values))(image.Pre(w.r, set)) },
		"Forced":        func() { w.isSet("Forced", w.forced(values))(image.Forced(w.r, set)) },
		"Dead":          func() { w.isSet("Dead", w.dead())(image.Dead(w.r)) },
		"Shift to next": func() { w.is("Shift", values, w.next())(image.Shift(w.r, set, true)) },
		"Shift back":    func() { w.is("Shift", values, w.now())(image.Shift(w.r, later, false)) },
	} {
		for kind := api.EvCollect; kind <= api.EvTurn; kind++ {
			for _, level := range []int{0, 2, 5} {
				after := 0
				for w.M.Waits() == 0 {
					after++
					w.M.Plan(api.Event{After: after, Kind: kind, Level: level}, api.Event{After: 1, Kind: api.EvCollect})
					check()
				}
				if after < 3 {
					t.Error(about, after)
				}
				for w.M.Waits() > 0 {
					w.set(0b1)
				}
			}
		}
	}
}

// Models without bits, states, transitions or parts, and such that have parts with few variables in common.
func TestModels(t *testing.T) {
	for _, s := range []string{
		"",
		"trans true;",
		"trans false;",
		"invar false;",
		"var k : 7 .. 7;",
		"var k : 7 .. 7; next k := 6;",
		"var k : 7 .. 7; trans next(k) = k;",
		"var x : bool;",
		"var x : 0 .. 2;",
		"var x : bool; var y : 0 .. 2;",
		"var x : bool; invar false; init x; fair x;",
		"var x : bool; var y : bool; next x := y;",
		"var x : 0 .. 4; var y : bool; next x := if x = 4 then 0 else x + 1;",
		"var x : 0 .. 4; var y : bool; invar x != 3; trans next(x) = x + 1;",
		"var x : 0 .. 2; var y : 0 .. 2; invar x + y <= 2; next x := y;",
		"var x : 0 .. 2; var y : 0 .. 2; def top := x = 2; trans next(y) != 1; trans top -> next(x) != 2;",
		"var x : 0 .. 2; var y : 0 .. 2; trans x = 1 | next(x) = 1; trans y = next(x); trans x != next(y);",
		"var x : -1 .. 1; trans next(x) = 0 - x; trans next(x) != x; next x := x * x - 1;",
	} {
		w := ofText(t, s)
		for range 8 {
			w.answers(w.R.Uint64() & w.full())
		}
		w.answers(0)
		w.answers(w.full())
	}
}

func TestDerivedProperties(t *testing.T) {
	r := rand.New(rand.NewSource(45))
	meeting := 0
	for range 300 {
		mod := sample.Module(r)
		vars := 2 * typing.Bits(mod)
		w, e := newWorld(t, r, mod, vars, trial.Enough(vars, 2))
		if e != api.OK {
			t.Fatal(e)
		}
		h := w.Right
		some := func() int { return h(ops.And(w.M, w.set(r.Uint64()&w.full()), w.r.Valid())) }
		a, b := some(), some()
		w.Disturb()
		post, pre := h(image.Post(w.r, a)), h(image.Pre(w.r, b))
		forward, _ := ops.Meets(w.M, post, b)
		back, _ := ops.Meets(w.M, pre, a)
		if forward != back {
			t.Fatal(forward, back)
		}
		if forward {
			meeting++
		}
		complement := h(ops.And(w.M, h(w.M.Not(b)), w.r.Valid()))
		w.Disturb()
		escaping := h(image.Pre(w.r, complement))
		w.Same("Forced", h(image.Forced(w.r, b)), h(ops.And(w.M, h(w.M.Not(escaping)), w.r.Valid())))
		w.Same("Dead", h(image.Dead(w.r)), h(image.Forced(w.r, 0)))
		either := h(ops.Or(w.M, a, b))
		w.Disturb()
		w.Same("Post of a union", h(image.Post(w.r, either)), h(ops.Or(w.M, post, h(image.Post(w.r, b)))))
		w.Same("Pre of a union", h(image.Pre(w.r, either)), h(ops.Or(w.M, pre, h(image.Pre(w.r, a)))))
		f := w.set(r.Uint64() & w.full())
		w.Disturb()
		w.Same("there and back", f, h(image.Shift(w.r, h(image.Shift(w.r, f, true)), false)))
	}
	if meeting < 50 || meeting > 200 {
		t.Error(meeting)
	}
}

// unary returns calls of all functions that take a set, but for Shift.
func unary() map[string]func(r *rel.Rel, set int) (int, api.Errno) {
	return map[string]func(r *rel.Rel, set int) (int, api.Errno){"Post": image.Post, "Pre": image.Pre, "Forced": image.Forced}
}

func TestWrongArguments(t *testing.T) {
	w := ofText(t, "var n : 0 .. 2; next n := 2 - n;") // bits 0 and 1 are variables 0, 2 and 1, 3; variable 4 is none's
	other := trial.New(t, nil, 4, 100)
	for range 40 {
		other.Handle(6)
	}
	gone := w.Handle(6)
	w.M.Drop(gone)
	shift := func(next bool) func(r *rel.Rel, set int) (int, api.Errno) {
		return func(r *rel.Rel, set int) (int, api.Errno) { return image.Shift(r, set, next) }
	}
	all := unary()
	all["Shift to next"], all["Shift back"] = shift(true), shift(false)
	now, next := w.set(0b0110), w.Right(w.put(0b0110, w.next()))
	for about, call := range all {
		for _, bad := range []int{gone, -1, 40, math.MinInt, math.MaxInt} {
			w.Fails(about, api.ErrHandle)(call(w.r, bad))
			w.Fails(about, api.ErrNone)(call(nil, bad))
		}
		w.Fails(about, api.ErrNone)(call(nil, 0))
		w.Fails(about, api.ErrNone)(call(nil, now))
		for _, vars := range [][]int{{4}, {0, 1}, {2, 3}, {0, 4}, {3, 4}, {0, 1, 2, 3, 4}} {
			h := w.Right(w.put(0b1, vars))
			w.Fails(about, api.ErrArg)(call(w.r, h))
			w.M.Drop(h)
		}
		fit, unfit := now, next
		if about == "Shift back" {
			fit, unfit = next, now
		}
		w.Fails(about, api.ErrArg)(call(w.r, unfit))
		for _, set := range []int{0, 1, fit} {
			w.M.Drop(w.Right(call(w.r, set)))
		}
		// It depends on another variable only where the bits are not those of a state.
		h := w.Right(w.put(1<<7, []int{0, 2, 4}))
		w.Fails(about, api.ErrArg)(call(w.r, h))
		w.M.Drop(h)
	}
	w.Fails("Dead", api.ErrNone)(image.Dead(nil))
}

// After a call that finds no room everything is as before.
func TestLittleRoom(t *testing.T) {
	r := rand.New(rand.NewSource(46))
	failed, done := map[string]int{}, map[string]int{}
	for range 3000 {
		mod := sample.Module(r)
		vars := 2 * typing.Bits(mod)
		w, e := newWorld(t, r, mod, vars, 5+r.Intn(6*vars+1))
		if e != api.OK {
			continue
		}
		values := r.Uint64() & w.full()
		set, e := w.put(values, w.now())
		if e != api.OK {
			continue
		}
		w.Disturb()
		owned := w.M.Handles()
		check := func(about string, want uint64, vars []int, h int, e api.Errno) {
			switch {
			case e == api.OK && w.table(h, vars) == want && w.M.Handles() == owned+1:
				done[about]++
				w.M.Drop(h)
			case e == api.ErrRoom && h == 0 && w.M.Handles() == owned:
				failed[about]++
			default:
				t.Fatal(about, h, e, w.M.Handles(), owned)
			}
			if w.table(set, w.now()) != values {
				t.Fatal(about, "a set has changed")
			}
		}
		for about, want := range map[string]uint64{"Post": w.post(values), "Pre": w.pre(values), "Forced": w.forced(values)} {
			h, e := unary()[about](w.r, set)
			check(about, want, w.now(), h, e)
		}
		h, e := image.Dead(w.r)
		check("Dead", w.dead(), w.now(), h, e)
		h, e = image.Shift(w.r, set, true)
		check("Shift", values, w.next(), h, e)
	}
	for _, about := range []string{"Post", "Pre", "Forced", "Dead", "Shift"} {
		if failed[about] < 8 || done[about] < 200 {
			t.Error(about, failed[about], done[about])
		}
	}
}

// Where the room is Enough for the handles, no call fails for it.
func TestEnoughRoom(t *testing.T) {
	r := rand.New(rand.NewSource(47))
	for done := 0; done < 500; {
		mod := sample.Module(r)
		vars := 2 * typing.Bits(mod)
		if vars > 6 {
			continue
		}
		done++
		handles := 2 + 2 + len(mod.Next) + len(mod.Trans) + 1 + len(mod.Fair) + 2 // those of answers are the last ones
		w, e := newWorld(t, r, mod, vars, trial.Enough(vars, handles))
		if e != api.OK {
			t.Fatal(e)
		}
		for range 5 {
			w.answers(r.Uint64() & w.full())
		}
	}
}

// big returns the relation of a model of 30 bits in which the variables change places, where the whole relation would have far more nodes than there is room for.
func big(t *testing.T, count int, v api.Var, room int) *rel.Rel {
	t.Helper()
	var mod api.Module
	for i := range count {
		mod.Vars = append(mod.Vars, v)
		mod.Vars[i].Name = "v" + fmt.Sprint(i)
		other := api.Term{Op: api.TName, Name: "v" + fmt.Sprint(count-1-i)}
		mod.Next = append(mod.Next, api.Def{Name: mod.Vars[i].Name, E: other})
	}
	m, e := dd.New(60, room)
	if e != api.OK {
		t.Fatal(e)
	}
	r, e := rel.New(m, mod)
	if e != api.OK {
		t.Fatal(e)
	}
	return r
}

// Variables are quantified early, also where not all bits encode values.
func TestEarlyQuantification(t *testing.T) {
	for _, r := range []*rel.Rel{big(t, 30, api.Var{Bool: true}, 1000), big(t, 10, api.Var{Hi: 4}, 4000)} {
		w := &trial.World{T: t, M: r.Man()}
		if h, e := r.Whole(); h != 0 || e != api.ErrRoom {
			t.Error(h, e)
		}
		w.Same("Post", w.Right(image.Post(r, 1)), r.Valid())
		w.Same("Pre", w.Right(image.Pre(r, 1)), r.Valid())
		w.Same("Dead", w.Right(image.Dead(r)), 0)
		low := w.Right(w.M.Var(0)) // the first bit of the first variable, which is the last one next
		later := w.Right(image.Post(r, low))
		vars := r.Layout().Now(len(r.Layout().Vars) - 1)
		high := w.Right(ops.And(w.M, w.Right(w.M.Var(vars[0])), r.Valid()))
		w.Same("Post", later, high)
		w.Same("Pre", w.Right(image.Pre(r, low)), high)
		w.Same("Forced", w.Right(image.Forced(r, low)), high)
	}
}
