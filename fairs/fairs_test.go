package fairs_test

import (
	"maps"
	"math"
	"math/rand"
	"slices"
	"strings"
	"testing"

	"voussoir/api"
	"voussoir/atlas"
	"voussoir/cnt"
	"voussoir/dd"
	"voussoir/fairs"
	"voussoir/image"
	"voussoir/ops"
	"voussoir/oracle"
	"voussoir/reach"
	"voussoir/rel"
	"voussoir/sample"
	"voussoir/satc"
	"voussoir/trial"
	"voussoir/typing"
)

// world is a world in which it can be told by enumeration what is wanted.
type world struct{ atlas.World }

// ofText returns the world of the model with that text.
func ofText(t *testing.T, s string) world {
	t.Helper()
	return world{atlas.Of(t, rand.New(rand.NewSource(1)), s)}
}

// ways tells between which states of p there is a path of at least one transition within p.
func (w world) ways(p uint64) [][]bool {
	n := len(w.Graph.States)
	path := make([][]bool, n)
	for i, next := range w.Graph.Next {
		path[i] = make([]bool, n)
		for _, k := range next {
			path[i][k] = w.In(p, i) && w.In(p, k)
		}
	}
	for by := range n {
		for i := range n {
			for k := range n {
				path[i][k] = path[i][k] || path[i][by] && path[by][k]
			}
		}
	}
	return path
}

// wanted returns what the functions are to come to.
func (w world) wanted(p uint64) (plain, hull, core uint64) {
	path := w.ways(p)
	leading := func(goals uint64) uint64 {
		return w.Where(func(i int) bool {
			return w.In(goals, i) || slices.ContainsFunc(w.indices(goals), func(k int) bool { return path[i][k] })
		})
	}
	cycles := w.Where(func(i int) bool { return path[i][i] })
	core = w.Where(func(i int) bool {
		meets := func(c int) bool {
			return slices.ContainsFunc(w.indices(cycles), func(k int) bool { return w.Graph.Fair[k][c] && path[i][k] && path[k][i] })
		}
		for c := range w.Graph.Fair[i] {
			if !meets(c) {
				return false
			}
		}
		return path[i][i]
	})
	return leading(cycles), leading(core), core
}

// indices returns those of the states of a set.
func (w world) indices(values uint64) (l []int) {
	for i := range w.Graph.States {
		if w.In(values, i) {
			l = append(l, i)
		}
	}
	return l
}

// answers checks what all functions answer for a set.
func (w world) answers(p uint64) {
	w.T.Helper()
	h := w.Set(p)
	plain, hull, core := w.wanted(p)
	_, fair, _ := w.wanted(w.Full())
	w.Disturb()
	w.GivesSet("Plain", plain)(fairs.Plain(w.Rel, h))
	w.Disturb()
	w.GivesSet("Hull", hull)(fairs.Hull(w.Rel, h))
	w.Disturb()
	w.GivesSet("Core", core)(fairs.Core(w.Rel, h))
	w.Disturb()
	w.GivesSet("Fair", fair)(fairs.Fair(w.Rel))
	if w.Read(h, w.Now()) != p {
		w.T.Fatal("a set has changed")
	}
	w.M.Drop(h)
}

func TestTheExample(t *testing.T) {
	w := ofText(t, "var n : 0 .. 2; next n := if n < 2 then n + 1 else 0; fair n = 1;")
	all, low := w.Set(0b111), w.Set(0b011)
	w.GivesSet("Hull", 0b111)(fairs.Hull(w.Rel, all))
	w.GivesSet("Core", 0b111)(fairs.Core(w.Rel, all))
	w.GivesSet("Fair", 0b111)(fairs.Fair(w.Rel))
	w.GivesSet("Hull", 0)(fairs.Hull(w.Rel, low))
	w.GivesSet("Plain", 0)(fairs.Plain(w.Rel, low))
	w.GivesSet("Core", 0)(fairs.Core(w.Rel, low))
	w = ofText(t, "var n : 0 .. 2; next n := n;")
	zero := w.Set(0b001)
	w.GivesSet("Hull", 0b001)(fairs.Hull(w.Rel, zero))
}

// Here the four sets differ: from 0 on there is a fair cycle, which 1 and 2 belong to, from 3 on an unfair one only, and from 4 on there is no path.
func TestCycles(t *testing.T) {
	w := ofText(t, "var n : 0 .. 5; trans n = 0 & next(n) <= 1 | n = 1 & next(n) = 2 | n = 2 & (next(n) = 1 | 3 <= next(n)) | n = 3 & 3 <= next(n) | n = 4 & next(n) = 5; fair n = 1 | n = 4; fair n = 2 | n = 4;")
	for _, x := range []struct{ p, plain, hull, core uint64 }{
		{0b111111, 0b001111, 0b000111, 0b000110},
		{0b000111, 0b000111, 0b000111, 0b000110},
		{0b001110, 0b001110, 0b000110, 0b000110},
		{0b101101, 0b001101, 0, 0},
		{0b000011, 0b000001, 0, 0},
		{0b110000, 0, 0, 0},
	} {
		h := w.Set(x.p)
		w.GivesSet("Plain", x.plain)(fairs.Plain(w.Rel, h))
		w.GivesSet("Hull", x.hull)(fairs.Hull(w.Rel, h))
		w.GivesSet("Core", x.core)(fairs.Core(w.Rel, h))
	}
	w.GivesSet("Fair", 0b000111)(fairs.Fair(w.Rel))
}

func TestRandomModels(t *testing.T) {
	r := rand.New(rand.NewSource(46))
	unfair, leading, strict := 0, 0, 0
	for range 200 {
		w := world{atlas.Some(t, r, 20)}
		owned := w.M.Handles()
		for range 6 {
			p := (r.Uint64() | r.Uint64() | r.Uint64()) & w.Full()
			w.answers(p)
			switch plain, hull, core := w.wanted(p); {
			case core != 0 && core != hull && hull != plain:
				strict++
			case core != hull:
				leading++
			case hull != plain:
				unfair++
			}
		}
		w.answers(0)
		w.answers(w.Full())
		if w.M.Handles() != owned {
			t.Fatal(w.M.Handles(), owned)
		}
	}
	if unfair < 80 || leading < 80 || strict < 8 {
		t.Error(unfair, leading, strict)
	}
}

// In these models there are several cycles, some of them fair and some of them not.
func TestModels(t *testing.T) {
	for _, s := range []string{
		"",
		"fair false;",
		"trans false;",
		"invar false;",
		"var k : 7 .. 7;",
		"var x : bool; fair x; fair !x;",
		"var x : bool; next x := x; fair x; fair !x;",
		"var x : 0 .. 31; next x := x;",
		"var x : 0 .. 31; next x := x; fair x mod 3 = 1;",
		"var x : 0 .. 31; trans x <= next(x); fair x mod 5 = 2; fair x mod 3 = 1;",
		"var x : 0 .. 31; trans next(x) <= x; fair 7 < x; fair x < 20;",
		"var x : 0 .. 31; next x := (5 * x + 4) mod 32; fair x < 16;",
		"var x : 0 .. 31; next x := (6 * x + 1) mod 32; fair x mod 2 = 1;",
		"var x : 0 .. 31; trans next(x) = (x * x) mod 32 | next(x) = (x * 3) mod 32; fair x mod 4 = 1; fair x < 9;",
		"var x : 0 .. 31; trans next(x) = x + 2 | x mod 5 = 4 & next(x) = x - 3; fair x mod 7 < 3; fair 1 < x mod 4; fair 5 < x;",
		"var a : 0 .. 5; var b : 0 .. 5; trans a = next(a) & next(b) = b + 1 | b = next(b) & next(a) = (a + 1) mod 6; fair a = b;",
		"var a : 0 .. 7; var b : 0 .. 7; next a := a; next b := if b < a then b + 1 else 0; fair b = 3; fair a != 6;",
		"var a : 0 .. 4; var b : 0 .. 4; trans next(a) + next(b) = a + b | next(a) + next(b) = a + b + 3; invar a != 2 | b = 2; fair a < b; fair b < a;",
		"var x : 0 .. 6; var b : bool; next x := if b then x + 1 else x; invar x = 3 -> b; trans b -> !next(b) | next(x) < 4; fair !b; fair x != 4;",
	} {
		w := ofText(t, s)
		for range 15 {
			w.answers((w.R.Uint64() | w.R.Uint64() | w.R.Uint64()) & w.Full())
		}
		w.answers(w.R.Uint64() & w.Full())
		w.answers(0)
		w.answers(w.Full())
	}
}

// The values of the bits of no state do not count.
func TestBitsOfNoState(t *testing.T) {
	w := ofText(t, "var x : 0 .. 2; var b : bool; invar x = 2 -> b; trans next(x) = x + 1 | next(x) = x - 1; fair !b; fair x = 1;")
	if w.States() != 0b01110011 {
		t.Fatalf("%b", w.States())
	}
	for values := range uint64(256) {
		w.answers(values)
	}
}

// An event may take place at any moment of a call.
func TestEvents(t *testing.T) {
	const p = 0b11110111
	w := ofText(t, "var x : 0 .. 3; var b : bool; next x := if b then (x + 1) mod 4 else x; next b := b | x = 1; trans x = 2 -> b; fair x = 0 | x = 2; fair b;")
	h := w.Set(p)
	plain, hull, core := w.wanted(p)
	_, fair, _ := w.wanted(w.Full())
	if core == 0 || core == hull || hull == plain || plain == p {
		t.Errorf("%b, %b, %b", plain, hull, core)
	}
	for about, check := range map[string]func(){
		"Plain": func() { w.GivesSet("Plain", plain)(fairs.Plain(w.Rel, h)) },
		"Hull":  func() { w.GivesSet("Hull", hull)(fairs.Hull(w.Rel, h)) },
		"Core":  func() { w.GivesSet("Core", core)(fairs.Core(w.Rel, h)) },
		"Fair":  func() { w.GivesSet("Fair", fair)(fairs.Fair(w.Rel)) },
	} {
		for kind := api.EvCollect; kind <= api.EvTurn; kind++ {
			for _, level := range []int{0, 3, 5} {
				after := 0
				for w.M.Waits() == 0 {
					after += 1 + after/20
					w.M.Plan(api.Event{After: after, Kind: kind, Level: level}, api.Event{After: 1, Kind: api.EvCollect})
					check()
				}
				if after < 10 {
					t.Error(about, after)
				}
				for w.M.Waits() > 0 {
					w.M.Drop(w.Set(0b1))
				}
			}
		}
	}
}

func TestDerivedProperties(t *testing.T) {
	r := rand.New(rand.NewSource(47))
	states, none := 0, 0
	for range 300 {
		w := world{atlas.Some(t, r, 40)}
		h := w.Right
		more := (r.Uint64() | r.Uint64() | r.Uint64()) & w.Full()
		p := h(ops.And(w.M, w.Set((r.Uint64()|r.Uint64()|r.Uint64())&more), w.Rel.Valid()))
		plain, hull, core := h(fairs.Plain(w.Rel, p)), h(fairs.Hull(w.Rel, p)), h(fairs.Core(w.Rel, p))
		w.Disturb()
		w.Asks("Core in Hull", true)(ops.Within(w.M, core, hull))
		w.Asks("Hull in Plain", true)(ops.Within(w.M, hull, plain))
		w.Asks("Plain in p", true)(ops.Within(w.M, plain, p))
		if len(w.Rel.Fair()) == 0 {
			none++
			w.Same("without constraints", hull, plain)
		}
		before, back := h(image.Pre(w.Rel, hull)), h(reach.Back(w.Rel, core))
		greater := h(fairs.Hull(w.Rel, w.Set(more)))
		w.Disturb()
		w.Asks("Hull goes on", true)(ops.Within(w.M, hull, before))
		w.Same("Hull of Hull", hull, h(fairs.Hull(w.Rel, hull)))
		w.Same("Core of Hull", core, h(fairs.Core(w.Rel, hull)))
		w.Asks("monotone", true)(ops.Within(w.M, hull, greater))
		w.Same("Fair", h(fairs.Fair(w.Rel)), h(fairs.Hull(w.Rel, 1)))
		w.Asks("reaches Core", true)(ops.Within(w.M, hull, back))
		states += len(w.indices(w.Read(hull, w.Now())))
	}
	if states < 200 || none < 60 {
		t.Error(states, none)
	}
}

// The explicit state graph comes to the same states.
func TestOracle(t *testing.T) {
	r := rand.New(rand.NewSource(48))
	for range 200 {
		w := world{atlas.Some(t, r, 20)}
		p := (r.Uint64() | r.Uint64()) & w.Full()
		var in []bool
		for i := range w.Graph.States {
			in = append(in, w.In(p, i))
		}
		fair, h := oracle.Fair(w.Graph, in), w.Set(p)
		w.GivesSet("Hull", w.Where(func(i int) bool { return fair[i] }))(fairs.Hull(w.Rel, h))
	}
}

// unary returns calls of all functions that take a set.
func unary() map[string]func(r *rel.Rel, p int) (int, api.Errno) {
	return map[string]func(r *rel.Rel, p int) (int, api.Errno){"Plain": fairs.Plain, "Hull": fairs.Hull, "Core": fairs.Core}
}

func TestWrongArguments(t *testing.T) {
	w := ofText(t, "var x : 0 .. 2; var b : bool; invar x = 2 -> b; next x := if x = 2 then 0 else x + 1; fair b;") // variable 6 is no bit's
	gone := w.Set(0b10)
	w.M.Drop(gone)
	later := w.Right(w.Put(0b0110, w.Next()))
	both := w.Right(w.Put(0b0110, []int{0, 1}))
	none := w.Right(w.M.Var(6))
	hidden := w.Right(w.Put(1<<15, []int{0, 2, 4, 6})) // it depends on variable 6 only where the bits are those of no state
	for about, call := range unary() {
		for _, bad := range []int{gone, -1, math.MinInt, math.MaxInt} {
			w.Fails(about, api.ErrHandle)(call(w.Rel, bad))
			w.Fails(about, api.ErrNone)(call(nil, bad))
		}
		for _, bad := range []int{later, both, none, hidden} {
			w.Fails(about, api.ErrArg)(call(w.Rel, bad))
			w.Fails(about, api.ErrNone)(call(nil, bad))
		}
		w.Fails(about, api.ErrNone)(call(nil, 0))
		w.Fails(about, api.ErrNone)(call(nil, 1))
	}
	w.Fails("Fair", api.ErrNone)(fairs.Fair(nil))
}

// After a call that finds no room everything is as before.
func TestLittleRoom(t *testing.T) {
	r := rand.New(rand.NewSource(49))
	failed, done := map[string]int{}, map[string]int{}
	for range 2500 {
		mod := sample.Module(r)
		vars := 2 * typing.Bits(mod)
		small, e := atlas.New(t, r, mod, vars, 5+r.Intn(6*vars+1))
		if e != api.OK {
			continue
		}
		w := world{small}
		p := (r.Uint64() | r.Uint64()) & w.Full()
		h, e := w.Put(p, w.Now())
		if e != api.OK {
			continue
		}
		owned := w.M.Handles()
		plain, hull, core := w.wanted(p)
		want := map[string]uint64{"Plain": plain, "Hull": hull, "Core": core}
		calls := unary()
		for _, about := range slices.Sorted(maps.Keys(calls)) {
			w.Disturb()
			switch x, e := calls[about](w.Rel, h); {
			case e == api.OK && w.M.Handles() == owned+1 && w.Read(x, w.Now()) == want[about]:
				done[about]++
				w.M.Drop(x)
			case e == api.ErrRoom && x == 0 && w.M.Handles() == owned:
				failed[about]++
			default:
				t.Fatal(about, x, e, w.M.Handles(), owned)
			}
			if w.Read(h, w.Now()) != p {
				t.Fatal(about, "a set has changed")
			}
		}
	}
	for about := range unary() {
		if failed[about] < 20 || done[about] < 300 {
			t.Error(about, failed[about], done[about])
		}
	}
}

// Wherever the room runs out, nothing is left of the parts in which components are looked for.
func TestPartsInLittleRoom(t *testing.T) {
	random := rand.New(rand.NewSource(51))
	for _, s := range []string{
		"var a : 0 .. 7; var b : 0 .. 3; trans a <= next(a); trans b <= next(b);",
		"var a : 0 .. 7; var b : 0 .. 3; next a := a; trans next(b) = (b + a) mod 4 | next(b) = (a * b) mod 3;",
		"var a : 0 .. 31; next a := (a + 8) mod 32;",
	} {
		w, e := atlas.New(t, random, sample.Model(t, s), 10, 1000)
		if e != api.OK {
			t.Fatal(s, e)
		}
		owned := w.M.Handles()
		var filling []int
		for fails := 0; fails < 99; {
			h, e := w.Put(random.Uint64()&0xffff, w.Next()[:4])
			if e == api.OK {
				filling = append(filling, h)
			} else {
				fails++
			}
		}
		failed := 0
		for h, e := fairs.Core(w.Rel, 1); e != api.OK; h, e = fairs.Core(w.Rel, 1) {
			if failed++; e != api.ErrRoom || h != 0 || w.M.Handles() != owned+len(filling) {
				t.Fatal(s, h, e, w.M.Handles(), len(filling))
			}
			last := len(filling) - 1
			w.M.Drop(filling[last])
			filling = filling[:last]
		}
		if failed < 10 {
			t.Error(s, failed)
		}
	}
}

// Where the room is Enough for the handles, no call fails for it.
func TestEnoughRoom(t *testing.T) {
	r := rand.New(rand.NewSource(50))
	for done := 0; done < 600; {
		mod := sample.Module(r)
		vars := 2 * typing.Bits(mod)
		if vars > 6 {
			continue
		}
		done++
		handles := 2 + 2 + len(mod.Next) + len(mod.Trans) + 1 + len(mod.Fair) + 1 // that of answers is the last one
		w, e := atlas.New(t, r, mod, vars, trial.Enough(vars, handles))
		if e != api.OK {
			t.Fatal(e)
		}
		for range 4 {
			world{w}.answers((r.Uint64() | r.Uint64()) & w.Full())
		}
	}
}

// In great models it does not take a step for each state that is on no fair cycle, nor a search through many components for each of them: so few nodes are asked for.
func TestGreatModels(t *testing.T) {
	const numbers = "var a : 0 .. 63; var b : 0 .. 63; var c : 0 .. 63; "
	const same = "trans next(a) = a & next(b) = b & next(c) = c "
	const pairs = "var a : 0 .. 63; var b : 0 .. 15; trans next(a) = a & next(b) = b "
	const up = "| next(a) = a & next(b) = b + 1 | next(a) = a + 1 & b = 15 & next(b) = 0; "
	const down = "| next(a) = a & next(b) = b - 1 | next(a) = a - 1 & b = 0 & next(b) = 15; "
	const between = "var end : bool; var last : bool; " + numbers + "invar end -> a = 0 & b = 0 & c = 0; invar !end -> !last; trans end -> (next(last) <-> last); "
	for _, x := range []struct {
		text              string
		nodes             int
		plain, hull, core int
	}{
		{numbers + "next a := 0; next b := 0; next c := c; trans c = 5;", 2000, 4096, 4096, 1},
		{numbers + same + "| next(a) = 9 & next(b) = 9 & next(c) = 9; fair a = 9 & b = 9 & c = 9;", 2000, 1 << 18, 1 << 18, 1},
		{numbers + same + "| a = 9 & b = 9 & c = 9; fair a = 9 & b = 9 & c = 9;", 2000, 1 << 18, 1, 1},
		{between + "trans !end -> next(end) & next(last);", 2000, 1<<18 + 2, 1<<18 + 2, 2},
		{between + same + "& !next(end) | end | next(end) & next(last); fair end;", 2000, 1<<18 + 2, 1<<18 + 2, 2},
		{pairs + up, 512000, 1024, 1024, 1024},
		{pairs + down, 512000, 1024, 1024, 1024},
		{pairs + "| next(a) = a - 1 & next(b) = 15 - b; fair a mod 2 = 0 & b < 8; fair a < 50;", 256000, 1024, 512, 200},
	} {
		gives(t, x.text, x.nodes, map[string]int{"Plain": x.plain, "Hull": x.hull, "Core": x.core})
	}
}

// gives checks how many states there are in the sets for all states of a model, and that no more than so many nodes are asked for.
func gives(t *testing.T, s string, nodes int, want map[string]int) {
	t.Helper()
	mod := sample.Model(t, s)
	for about, many := range want {
		m, e := dd.New(2*typing.Bits(mod), 1<<18)
		if e != api.OK {
			t.Fatal(e)
		}
		r, e := rel.New(m, mod)
		if e != api.OK {
			t.Fatal(s, e)
		}
		owned := m.Handles()
		m.Plan(api.Event{After: nodes, Kind: api.EvCollect})
		h, e := unary()[about](r, r.Valid())
		if e != api.OK || m.Handles() != owned+1 {
			t.Fatal(s, about, h, e, m.Handles(), owned)
		}
		if m.Waits() == 0 {
			t.Errorf("%s: %s takes more than %d nodes", s, about, nodes)
		}
		if n, e := satc.Count(m, h, r.Layout().AllNow()...); cnt.Cmp(n, cnt.Of(uint64(many))) != 0 || e != api.OK {
			t.Errorf("%s: %s: %v, %d; want %d", s, about, n, e, many)
		}
	}
}

// There is no limit of steps: it takes 4097 of them to find out that from a chain's states no path starts, and as many to get from one end to the other. The end is followed by the second state then.
func TestManySteps(t *testing.T) {
	gives(t, sample.Chain, math.MaxInt, map[string]int{"Plain": 0, "Hull": 0, "Core": 0})
	closed := strings.Replace(sample.Chain, "trans !c;", "fair c; fair a = 0 & b = 1;", 1)
	gives(t, closed, math.MaxInt, map[string]int{"Plain": 4097, "Hull": 4097, "Core": 4096})
}
