package image_test

import (
	"fmt"
	"math"
	"math/rand"
	"slices"
	"testing"

	"voussoir/api"
	"voussoir/atlas"
	"voussoir/dd"
	"voussoir/image"
	"voussoir/ops"
	"voussoir/rel"
	"voussoir/sample"
	"voussoir/trial"
	"voussoir/typing"
)

// world is a world in which it can be told by enumeration what is wanted.
type world struct{ atlas.World }

// newWorld returns a world with room for so many nodes, where the relation finds room.
func newWorld(t *testing.T, r *rand.Rand, mod api.Module, vars, room int) (w world, e api.Errno) {
	t.Helper()
	w.World, e = atlas.New(t, r, mod, vars, room)
	return w, e
}

// ofText returns the world of the model with that text.
func ofText(t *testing.T, s string) world {
	t.Helper()
	return world{atlas.Of(t, rand.New(rand.NewSource(1)), s)}
}

// forced and dead say what is wanted, as Post and Pre do.
func (w world) forced(values uint64) uint64 {
	return w.Where(func(i int) bool {
		return !slices.ContainsFunc(w.Graph.Next[i], func(k int) bool { return !w.In(values, k) })
	})
}

func (w world) dead() uint64 {
	return w.Where(func(i int) bool { return len(w.Graph.Next[i]) == 0 })
}

// answers checks what all functions answer for a set.
func (w world) answers(values uint64) {
	w.T.Helper()
	h, later := w.Set(values), w.Right(w.Put(values, w.Next()))
	shake := func() {
		w.Disturb()
		w.Disturb()
	}
	shake()
	w.GivesSet("Post", w.Post(values))(image.Post(w.Rel, h))
	shake()
	w.GivesSet("Pre", w.Pre(values))(image.Pre(w.Rel, h))
	shake()
	w.GivesSet("Forced", w.forced(values))(image.Forced(w.Rel, h))
	shake()
	w.GivesSet("Dead", w.dead())(image.Dead(w.Rel))
	shake()
	w.Gives("Shift to next", values, w.Next())(image.Shift(w.Rel, h, true))
	shake()
	w.Gives("Shift back", values, w.Now())(image.Shift(w.Rel, later, false))
	if w.Read(h, w.Now()) != values || w.Read(later, w.Next()) != values {
		w.T.Fatal("a set has changed")
	}
	w.M.Drop(h, later)
}

func TestTheExample(t *testing.T) {
	w := ofText(t, "var n : 0 .. 2; next n := if n < 2 then n + 1 else 2;")
	low, high := w.Set(0b011), w.Set(0b100)
	w.GivesSet("Post", 0b110)(image.Post(w.Rel, low))
	w.GivesSet("Pre", 0b110)(image.Pre(w.Rel, high))
	w.GivesSet("Forced", 0b110)(image.Forced(w.Rel, high))
	w.GivesSet("Dead", 0)(image.Dead(w.Rel))
}

// Some states have no transitions: they are forced to go anywhere.
func TestStatesWithoutTransitions(t *testing.T) {
	w := ofText(t, "var x : 0 .. 2; next x := x + 1;")
	last := w.Set(0b100)
	w.GivesSet("Dead", 0b100)(image.Dead(w.Rel))
	w.GivesSet("Forced", 0b100)(image.Forced(w.Rel, 0))
	w.GivesSet("Forced", 0b110)(image.Forced(w.Rel, last))
	w.GivesSet("Forced", 0b111)(image.Forced(w.Rel, 1))
	w.GivesSet("Pre", 0b011)(image.Pre(w.Rel, 1))
	w.GivesSet("Post", 0b110)(image.Post(w.Rel, 1))
	w.GivesSet("Post", 0)(image.Post(w.Rel, last))
	w.GivesSet("Post", 0)(image.Post(w.Rel, 0))
	w.GivesSet("Pre", 0)(image.Pre(w.Rel, 0))
}

// Bits that encode no state count for Shift only.
func TestBitsOfNoState(t *testing.T) {
	w := ofText(t, "var x : 0 .. 2; var b : bool; invar x = 2 -> b; next b := !b; trans next(x) != x;")
	const states = 0b01110011
	if got := w.Read(w.Rel.Valid(), w.Now()); got != states {
		t.Fatal(got)
	}
	for values := range uint64(256) {
		w.answers(values)
	}
	others := w.Set(0xff &^ states)
	w.GivesSet("Pre", 0)(image.Pre(w.Rel, others))
	w.GivesSet("Post", 0)(image.Post(w.Rel, others))
	w.GivesSet("Forced", w.dead())(image.Forced(w.Rel, others))
}

func TestRandomModels(t *testing.T) {
	r := rand.New(rand.NewSource(43))
	steps, dead, wide := 0, 0, 0
	for done := 0; done < 400; {
		mod := sample.Module(r)
		bits := typing.Bits(mod)
		if bits > 4 && r.Intn(4) > 0 {
			continue
		}
		done++
		vars := 2*bits + r.Intn(3)
		w, e := newWorld(t, r, mod, vars, trial.Enough(vars, 2))
		if e != api.OK {
			t.Fatal(e)
		}
		if w.Read(w.Rel.Valid(), w.Now()) != w.States() {
			t.Fatal("states")
		}
		owned := w.M.Handles()
		for range 4 {
			w.answers(r.Uint64() & w.Full())
			w.answers(r.Uint64() & r.Uint64() & r.Uint64() & w.Full())
		}
		w.answers(0)
		w.answers(w.Full())
		if w.M.Handles() != owned {
			t.Fatal(owned, w.M.Handles())
		}
		w.Rel.Close()
		if w.M.Handles() != 2 {
			t.Fatal(w.M.Handles())
		}
		for _, next := range w.Graph.Next {
			steps += len(next)
			if len(next) == 0 {
				dead++
			}
		}
		if bits > 4 {
			wide++
		}
	}
	if steps < 2000 || dead < 300 || wide < 10 {
		t.Error(steps, dead, wide)
	}
}

// An event may take place at any moment of a call.
func TestEvents(t *testing.T) {
	const values = 0b01100101
	w := ofText(t, "var x : 0 .. 2; var b : bool; invar x = 2 -> b; next b := !b; trans next(x) != x;")
	set, later := w.Set(values), w.Right(w.Put(values, w.Next()))
	for about, check := range map[string]func(){
		"Post":          func() { w.GivesSet("Post", w.Post(values))(image.Post(w.Rel, set)) },
		"Pre":           func() { w.GivesSet("Pre", w.Pre(values))(image.Pre(w.Rel, set)) },
		"Forced":        func() { w.GivesSet("Forced", w.forced(values))(image.Forced(w.Rel, set)) },
		"Dead":          func() { w.GivesSet("Dead", w.dead())(image.Dead(w.Rel)) },
		"Shift to next": func() { w.Gives("Shift", values, w.Next())(image.Shift(w.Rel, set, true)) },
		"Shift back":    func() { w.Gives("Shift", values, w.Now())(image.Shift(w.Rel, later, false)) },
	} {
		for kind := api.EvCollect; kind <= api.EvTurn; kind++ {
			for _, level := range []int{0, 2, 5} {
				after := 0
				for w.M.Waits() == 0 {
					after++
					w.M.Plan(api.Event{After: after, Kind: kind, Level: level}, api.Event{After: 1, Kind: api.EvCollect})
					check()
				}
				if after < 3 {
					t.Error(about, after)
				}
				for w.M.Waits() > 0 {
					w.Set(0b1)
				}
			}
		}
	}
}

// Models without bits, states, transitions or parts, and such that have parts with few variables in common.
func TestModels(t *testing.T) {
	for _, s := range []string{
		"",
		"trans true;",
		"trans false;",
		"invar false;",
		"var k : 7 .. 7;",
		"var k : 7 .. 7; next k := 6;",
		"var k : 7 .. 7; trans next(k) = k;",
		"var x : bool;",
		"var x : 0 .. 2;",
		"var x : bool; var y : 0 .. 2;",
		"var x : bool; invar false; init x; fair x;",
		"var x : bool; var y : bool; next x := y;",
		"var x : 0 .. 4; var y : bool; next x := if x = 4 then 0 else x + 1;",
		"var x : 0 .. 4; var y : bool; invar x != 3; trans next(x) = x + 1;",
		"var x : 0 .. 2; var y : 0 .. 2; invar x + y <= 2; next x := y;",
		"var x : 0 .. 2; var y : 0 .. 2; def top := x = 2; trans next(y) != 1; trans top -> next(x) != 2;",
		"var x : 0 .. 2; var y : 0 .. 2; trans x = 1 | next(x) = 1; trans y = next(x); trans x != next(y);",
		"var x : -1 .. 1; trans next(x) = 0 - x; trans next(x) != x; next x := x * x - 1;",
	} {
		w := ofText(t, s)
		for range 8 {
			w.answers(w.R.Uint64() & w.Full())
		}
		w.answers(0)
		w.answers(w.Full())
	}
}

func TestDerivedProperties(t *testing.T) {
	r := rand.New(rand.NewSource(45))
	meeting := 0
	for range 300 {
		mod := sample.Module(r)
		vars := 2 * typing.Bits(mod)
		w, e := newWorld(t, r, mod, vars, trial.Enough(vars, 2))
		if e != api.OK {
			t.Fatal(e)
		}
		h := w.Right
		some := func() int { return h(ops.And(w.M, w.Set(r.Uint64()&w.Full()), w.Rel.Valid())) }
		a, b := some(), some()
		w.Disturb()
		post, pre := h(image.Post(w.Rel, a)), h(image.Pre(w.Rel, b))
		forward, _ := ops.Meets(w.M, post, b)
		back, _ := ops.Meets(w.M, pre, a)
		if forward != back {
			t.Fatal(forward, back)
		}
		if forward {
			meeting++
		}
		complement := h(ops.And(w.M, h(w.M.Not(b)), w.Rel.Valid()))
		w.Disturb()
		escaping := h(image.Pre(w.Rel, complement))
		w.Same("Forced", h(image.Forced(w.Rel, b)), h(ops.And(w.M, h(w.M.Not(escaping)), w.Rel.Valid())))
		w.Same("Dead", h(image.Dead(w.Rel)), h(image.Forced(w.Rel, 0)))
		either := h(ops.Or(w.M, a, b))
		w.Disturb()
		w.Same("Post of a union", h(image.Post(w.Rel, either)), h(ops.Or(w.M, post, h(image.Post(w.Rel, b)))))
		w.Same("Pre of a union", h(image.Pre(w.Rel, either)), h(ops.Or(w.M, pre, h(image.Pre(w.Rel, a)))))
		f := w.Set(r.Uint64() & w.Full())
		w.Disturb()
		w.Same("there and back", f, h(image.Shift(w.Rel, h(image.Shift(w.Rel, f, true)), false)))
	}
	if meeting < 50 || meeting > 200 {
		t.Error(meeting)
	}
}

// unary returns calls of all functions that take a set, but for Shift.
func unary() map[string]func(r *rel.Rel, set int) (int, api.Errno) {
	return map[string]func(r *rel.Rel, set int) (int, api.Errno){"Post": image.Post, "Pre": image.Pre, "Forced": image.Forced}
}

func TestWrongArguments(t *testing.T) {
	w := ofText(t, "var n : 0 .. 2; next n := 2 - n;") // bits 0 and 1 are variables 0, 2 and 1, 3; variable 4 is none's
	other := trial.New(t, nil, 4, 100)
	for range 40 {
		other.Handle(6)
	}
	gone := w.Handle(6)
	w.M.Drop(gone)
	shift := func(next bool) func(r *rel.Rel, set int) (int, api.Errno) {
		return func(r *rel.Rel, set int) (int, api.Errno) { return image.Shift(r, set, next) }
	}
	all := unary()
	all["Shift to next"], all["Shift back"] = shift(true), shift(false)
	now, next := w.Set(0b0110), w.Right(w.Put(0b0110, w.Next()))
	for about, call := range all {
		for _, bad := range []int{gone, -1, 40, math.MinInt, math.MaxInt} {
			w.Fails(about, api.ErrHandle)(call(w.Rel, bad))
			w.Fails(about, api.ErrNone)(call(nil, bad))
		}
		w.Fails(about, api.ErrNone)(call(nil, 0))
		w.Fails(about, api.ErrNone)(call(nil, now))
		for _, vars := range [][]int{{4}, {0, 1}, {2, 3}, {0, 4}, {3, 4}, {0, 1, 2, 3, 4}} {
			h := w.Right(w.Put(0b1, vars))
			w.Fails(about, api.ErrArg)(call(w.Rel, h))
			w.M.Drop(h)
		}
		fit, unfit := now, next
		if about == "Shift back" {
			fit, unfit = next, now
		}
		w.Fails(about, api.ErrArg)(call(w.Rel, unfit))
		for _, set := range []int{0, 1, fit} {
			w.M.Drop(w.Right(call(w.Rel, set)))
		}
		// It depends on another variable only where the bits are not those of a state.
		h := w.Right(w.Put(1<<7, []int{0, 2, 4}))
		w.Fails(about, api.ErrArg)(call(w.Rel, h))
		w.M.Drop(h)
	}
	w.Fails("Dead", api.ErrNone)(image.Dead(nil))
}

// After a call that finds no room everything is as before.
func TestLittleRoom(t *testing.T) {
	r := rand.New(rand.NewSource(46))
	failed, done := map[string]int{}, map[string]int{}
	for range 3000 {
		mod := sample.Module(r)
		vars := 2 * typing.Bits(mod)
		w, e := newWorld(t, r, mod, vars, 5+r.Intn(6*vars+1))
		if e != api.OK {
			continue
		}
		values := r.Uint64() & w.Full()
		set, e := w.Put(values, w.Now())
		if e != api.OK {
			continue
		}
		w.Disturb()
		owned := w.M.Handles()
		check := func(about string, want uint64, vars []int, h int, e api.Errno) {
			switch {
			case e == api.OK && w.Read(h, vars) == want && w.M.Handles() == owned+1:
				done[about]++
				w.M.Drop(h)
			case e == api.ErrRoom && h == 0 && w.M.Handles() == owned:
				failed[about]++
			default:
				t.Fatal(about, h, e, w.M.Handles(), owned)
			}
			if w.Read(set, w.Now()) != values {
				t.Fatal(about, "a set has changed")
			}
		}
		for about, want := range map[string]uint64{"Post": w.Post(values), "Pre": w.Pre(values), "Forced": w.forced(values)} {
			h, e := unary()[about](w.Rel, set)
			check(about, want, w.Now(), h, e)
		}
		h, e := image.Dead(w.Rel)
		check("Dead", w.dead(), w.Now(), h, e)
		h, e = image.Shift(w.Rel, set, true)
		check("Shift", values, w.Next(), h, e)
	}
	for _, about := range []string{"Post", "Pre", "Forced", "Dead", "Shift"} {
		if failed[about] < 8 || done[about] < 200 {
			t.Error(about, failed[about], done[about])
		}
	}
}

// Where the room is Enough for the handles, no call fails for it.
func TestEnoughRoom(t *testing.T) {
	r := rand.New(rand.NewSource(47))
	for done := 0; done < 500; {
		mod := sample.Module(r)
		vars := 2 * typing.Bits(mod)
		if vars > 6 {
			continue
		}
		done++
		handles := 2 + 2 + len(mod.Next) + len(mod.Trans) + 1 + len(mod.Fair) + 2 // those of answers are the last ones
		w, e := newWorld(t, r, mod, vars, trial.Enough(vars, handles))
		if e != api.OK {
			t.Fatal(e)
		}
		for range 5 {
			w.answers(r.Uint64() & w.Full())
		}
	}
}

// big returns the relation of a model of 30 bits in which the variables change places, where the whole relation would have far more nodes than there is room for.
func big(t *testing.T, count int, v api.Var, room int) *rel.Rel {
	t.Helper()
	var mod api.Module
	for i := range count {
		mod.Vars = append(mod.Vars, v)
		mod.Vars[i].Name = "v" + fmt.Sprint(i)
		other := api.Term{Op: api.TName, Name: "v" + fmt.Sprint(count-1-i)}
		mod.Next = append(mod.Next, api.Def{Name: mod.Vars[i].Name, E: other})
	}
	m, e := dd.New(60, room)
	if e != api.OK {
		t.Fatal(e)
	}
	r, e := rel.New(m, mod)
	if e != api.OK {
		t.Fatal(e)
	}
	return r
}

// Variables are quantified early, also where not all bits encode values.
func TestEarlyQuantification(t *testing.T) {
	for _, r := range []*rel.Rel{big(t, 30, api.Var{Bool: true}, 1000), big(t, 10, api.Var{Hi: 4}, 4000)} {
		w := &trial.World{T: t, M: r.Man()}
		if h, e := r.Whole(); h != 0 || e != api.ErrRoom {
			t.Error(h, e)
		}
		w.Same("Post", w.Right(image.Post(r, 1)), r.Valid())
		w.Same("Pre", w.Right(image.Pre(r, 1)), r.Valid())
		w.Same("Dead", w.Right(image.Dead(r)), 0)
		low := w.Right(w.M.Var(0)) // the first bit of the first variable, which is the last one next
		later := w.Right(image.Post(r, low))
		vars := r.Layout().Now(len(r.Layout().Vars) - 1)
		high := w.Right(ops.And(w.M, w.Right(w.M.Var(vars[0])), r.Valid()))
		w.Same("Post", later, high)
		w.Same("Pre", w.Right(image.Pre(r, low)), high)
		w.Same("Forced", w.Right(image.Forced(r, low)), high)
	}
}
