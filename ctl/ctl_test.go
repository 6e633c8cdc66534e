package ctl_test

import (
	"maps"
	"math"
	"math/rand"
	"slices"
	"strings"
	"testing"

	"voussoir/api"
	"voussoir/atlas"
	"voussoir/blast"
	"voussoir/cnt"
	"voussoir/ctl"
	"voussoir/dd"
	"voussoir/fairs"
	"voussoir/ops"
	"voussoir/oracle"
	"voussoir/rel"
	"voussoir/sample"
	"voussoir/satc"
	"voussoir/states"
	"voussoir/trial"
	"voussoir/typing"
)

// world is a world in which it can be told by enumeration what is wanted.
type world struct{ atlas.World }

// ofText returns the world of the model with that text.
func ofText(t *testing.T, s string) world {
	t.Helper()
	return world{atlas.Of(t, rand.New(rand.NewSource(1)), s)}
}

// list reports for each state whether it is in a set.
func (w world) list(values uint64) (l []bool) {
	for i := range w.Graph.States {
		l = append(l, w.In(values, i))
	}
	return l
}

// table is the inverse of list.
func (w world) table(l []bool) uint64 {
	return w.Where(func(i int) bool { return l[i] })
}

// wanted returns the table of the states in which a formula holds.
func (w world) wanted(f api.Form) uint64 {
	w.T.Helper()
	l, e := oracle.Sat(w.Graph, w.Rel.Module(), f)
	if e != api.OK {
		w.T.Fatal(f, e)
	}
	return w.table(l)
}

// closed returns a set with all states that are reachable from those of it.
func (w world) closed(values uint64) uint64 {
	for {
		next := values | w.Post(values)
		if next == values {
			return values
		}
		values = next
	}
}

// some returns the table of a set, which is more often great than small, and has bits of no state in it.
func (w world) some() uint64 {
	return (w.R.Uint64() | w.R.Uint64()) & w.Full()
}

// holds checks all answers about a formula.
func (w world) holds(f api.Form) {
	w.T.Helper()
	want := w.wanted(f)
	w.Disturb()
	w.GivesSet("Sat", want)(ctl.Sat(w.Rel, f))
	for range 2 {
		care := w.closed(w.R.Uint64() & w.R.Uint64() & w.R.Uint64() & w.Full())
		w.Disturb()
		w.agrees(f, want, care)
	}
}

// agrees checks that the answer of Within is right in the states of care.
func (w world) agrees(f api.Form, want, care uint64) {
	w.T.Helper()
	set := w.Set(care)
	handles := w.M.Handles()
	h, e := ctl.Within(w.Rel, f, set)
	w.Right(h, e)
	if got := w.Read(h, w.Now()); (got^want)&care&w.States() != 0 || w.M.Handles() != handles+1 || w.Read(set, w.Now()) != care {
		w.T.Fatalf("%v within %x: %x; want %x; %v", f, care, got, want, w.Rel.Module())
	}
	w.M.Drop(h, set)
}

// answers checks what the functions answer that are given sets.
func (w world) answers(p, q uint64) {
	w.T.Helper()
	inP, inQ := w.list(p), w.list(q)
	f, g := w.Set(p), w.Set(q)
	w.Disturb()
	w.GivesSet("EX", w.table(oracle.EX(w.Graph, inP)))(ctl.EX(w.Rel, f))
	w.Disturb()
	w.GivesSet("EU", w.table(oracle.EU(w.Graph, inP, inQ)))(ctl.EU(w.Rel, f, g))
	w.Disturb()
	w.GivesSet("EG", w.table(oracle.EG(w.Graph, inP)))(ctl.EG(w.Rel, f))
	if w.Read(f, w.Now()) != p || w.Read(g, w.Now()) != q {
		w.T.Fatal("a set has changed")
	}
	w.M.Drop(f, g)
}

func TestExamples(t *testing.T) {
	const cycle = "var x : 0 .. 2; next x := if x = 2 then 0 else x + 1;"
	for _, x := range []struct {
		model string
		holds map[string]uint64 // formulas with the states in which they hold
	}{
		{cycle, map[string]uint64{"EF [x = 1]": 0b111, "AG [x = 1]": 0, "EX [x = 0]": 0b100, "A [[x < 2] U [x = 2]]": 0b111}},
		{cycle + "fair x = 5;", map[string]uint64{"AG [x = 1]": 0b111, "EG [x = x]": 0}},
		{"var x : bool; init !x; next x := !x;", map[string]uint64{"EX [x]": 0b01, "AG [x]": 0}},
		{"var x : bool;", map[string]uint64{"AF [x]": 0b10}},
		{"var x : bool; fair x;", map[string]uint64{"AF [x]": 0b11}},
		// No path starts anywhere.
		{"var x : 0 .. 2; next x := x + 1;", map[string]uint64{
			"EX [true]": 0, "EF [true]": 0, "EG [true]": 0, "E [[true] U [true]]": 0,
			"AX [false]": 0b111, "AF [false]": 0b111, "AG [false]": 0b111, "A [[false] U [false]]": 0b111, "[x = 1]": 0b010,
		}},
		// 0 stays or goes on to 1, which stays or ends in 2, from which no path goes on; a fair path has to stay in 1.
		{"var x : 0 .. 2; trans x = next(x) & x != 2 | next(x) = x + 1; fair x = 1;", map[string]uint64{
			"EX [x = 1]": 0b011, "EX [x = 0]": 0b001, "EX [x = 2]": 0, "AX [x = 1]": 0b110, "EG [true]": 0b011, "EF [x = 2]": 0, "AF [x = 1]": 0b111,
			"EG [x = 0]": 0, "AG [x <= 1]": 0b111, "E [[x = 0] U [x = 1]]": 0b011, "A [[x = 0] U [x = 1]]": 0b111, "A [[x = 1] U [x = 0]]": 0b101,
			"!EG [true]": 0b100, "EX [x = 1] & [x = 1]": 0b010, "EX [x = 1] -> [x = 1]": 0b110, "[x = 2] | AX [x = 1]": 0b110,
		}},
		// Two constraints have to be met again and again, but not in the same state.
		{"var x : 0 .. 3; trans x = 0 | x = 1 & next(x) = 2 | x = 2 & (next(x) = 1 | next(x) = 3) | x = 3 & next(x) = 3; fair x = 1; fair x = 2 | x = 3;", map[string]uint64{
			"EG [true]": 0b0111, "EG [x = 1 | x = 2]": 0b0110, "EG [x != 2]": 0, "EX [x = 3]": 0, "AF [x = 1 & false]": 0b1000, "AG [x != 0]": 0b1110,
		}},
		{"var x : bool; invar false;", map[string]uint64{"EX [true]": 0, "A [[true] U [true]]": 0, "[x]": 0, "!AG [x]": 0}},
		{"", map[string]uint64{"EG [true]": 1, "AX [false]": 0, "![true]": 0, "[true]": 1}},
	} {
		w := ofText(t, x.model)
		for s, want := range x.holds {
			f := sample.Formula(t, s)
			w.GivesSet(s, want)(ctl.Sat(w.Rel, f))
			w.GivesSet(s, want)(ctl.Within(w.Rel, f, 1))
		}
	}
}

func TestRandomModels(t *testing.T) {
	r := rand.New(rand.NewSource(47))
	some, fair := 0, 0
	met := map[int]int{}
	for range 700 {
		w := world{atlas.Some(t, r, 60)}
		owned := w.M.Handles()
		for range 4 {
			f := sample.Form(r, w.Rel.Module().Vars, 2+r.Intn(3))
			w.holds(f)
			if want := w.wanted(f); want != 0 && want != w.States() {
				some++
				met[f.Op]++
			}
		}
		w.answers(w.some(), w.R.Uint64()&w.R.Uint64()&w.Full())
		w.answers(w.some(), w.some())
		if len(w.Rel.Fair()) > 0 {
			fair++
		}
		if w.M.Handles() != owned {
			t.Fatal(w.M.Handles(), owned)
		}
	}
	if some < 200 || fair < 100 || len(met) != api.FAU {
		t.Error(some, fair, met)
	}
}

// models returns the texts of models of at most 64 states, in which all kinds of formulas are neither true nor false.
func models() []string {
	return []string{
		"",
		"fair false;",
		"invar false;",
		"var k : 7 .. 7;",
		"var x : bool; fair x; fair !x;",
		"var x : 0 .. 31; next x := x; fair x mod 3 = 1;",
		"var x : 0 .. 31; trans x <= next(x); fair x mod 5 = 2; fair x mod 3 = 1;",
		"var x : 0 .. 31; next x := (6 * x + 1) mod 32; fair x mod 2 = 1;",
		"var x : 0 .. 31; trans next(x) = x + 2 | x mod 5 = 4 & next(x) = x - 3; fair x mod 7 < 3; fair 1 < x mod 4; fair 5 < x;",
		"var a : 0 .. 5; var b : 0 .. 5; trans a = next(a) & next(b) = b + 1 | b = next(b) & next(a) = (a + 1) mod 6; fair a = b;",
		"var a : 0 .. 4; var b : 0 .. 4; trans next(a) + next(b) = a + b | next(a) + next(b) = a + b + 3; invar a != 2 | b = 2; fair a < b; fair b < a;",
		"var x : 0 .. 6; var b : bool; next x := if b then x + 1 else x; invar x = 3 -> b; trans b -> !next(b) | next(x) < 4; fair !b; fair x != 4;",
	}
}

func TestModels(t *testing.T) {
	r := rand.New(rand.NewSource(48))
	for _, s := range models() {
		w := ofText(t, s)
		for range 20 {
			w.holds(sample.Form(r, w.Rel.Module().Vars, 5))
		}
		for range 10 {
			w.answers(w.some(), w.R.Uint64()&w.R.Uint64()&w.Full())
		}
		for _, p := range []uint64{0, w.Full()} {
			w.answers(p, w.some())
			w.answers(w.some(), p)
			w.answers(p, p)
		}
	}
}

// The values of the bits of no state do not count, neither in sets nor in terms.
func TestBitsOfNoState(t *testing.T) {
	w := ofText(t, "var x : 0 .. 2; var b : bool; invar x = 2 -> b; trans next(x) = x + 1 | next(x) = x - 1; fair !b; fair x = 1;")
	if w.States() != 0b01110011 {
		t.Fatalf("%b", w.States())
	}
	for values := range uint64(256) {
		w.answers(values, 0b00100010)
		w.answers(0b01010011, values)
	}
	for _, s := range []string{"[x = 2]", "[!(x = 2)]", "![x = 2]", "[x = 1] -> EX [b]", "[1 <= x]", "[x * x = 4]", "AX [x < 2]", "A [[b] U [x != 0]]"} {
		f := sample.Formula(t, s)
		want := w.wanted(f)
		w.GivesSet(s, want)(ctl.Sat(w.Rel, f))
		for care := range uint64(256) {
			w.agrees(f, want, w.closed(care))
		}
	}
}

// If a transition leads out of care, nothing is promised but that there is a function of the current bits.
func TestWithinWhatIsLeft(t *testing.T) {
	r := rand.New(rand.NewSource(49))
	left := 0
	for range 300 {
		w := world{atlas.Some(t, r, 30)}
		care := w.some()
		if w.closed(care) != care {
			left++
		}
		w.agrees(sample.Form(r, w.Rel.Module().Vars, 4), 0, care&^w.States())
		f, set := sample.Form(r, w.Rel.Module().Vars, 4), w.Set(care)
		owned := w.M.Handles()
		h, e := ctl.Within(w.Rel, f, set)
		w.Read(w.Right(h, e), w.Now())
		w.M.Drop(h)
		if w.M.Handles() != owned {
			t.Fatal(w.M.Handles(), owned)
		}
	}
	if left < 40 {
		t.Error(left)
	}
}

// Many answers what Sat does, in the order of the formulas, with a handle for each one, even if formulas are equal.
func TestMany(t *testing.T) {
	r := rand.New(rand.NewSource(50))
	for range 200 {
		w := world{atlas.Some(t, r, 40)}
		var l []api.Form
		for range r.Intn(6) {
			l = append(l, sample.Form(r, w.Rel.Module().Vars, 4))
		}
		l = append(l, l...)
		r.Shuffle(len(l), func(i, k int) { l[i], l[k] = l[k], l[i] })
		w.Disturb()
		w.allHold(l)
	}
}

// Formulas with common operands are told apart, and so are terms that differ a little.
func TestCommonOperands(t *testing.T) {
	r := rand.New(rand.NewSource(54))
	for _, s := range models() {
		w := ofText(t, s)
		vars := w.Rel.Module().Vars
		truth := api.Form{Op: api.FTerm, E: api.Term{Op: api.TBool, N: 1}}
		l := []api.Form{truth, sample.Form(r, vars, 1), sample.Form(r, vars, 2)}
		for op := api.FNot; op <= api.FAU; op++ {
			for _, f := range l[:3] {
				switch op {
				case api.FAnd, api.FOr, api.FImp, api.FEU, api.FAU:
					for _, g := range l[:3] {
						l = append(l, api.Form{Op: op, Kids: []api.Form{f, g}})
					}
				default:
					l = append(l, api.Form{Op: op, Kids: []api.Form{f}})
				}
			}
		}
		for range 5 {
			r.Shuffle(len(l), func(i, k int) { l[i], l[k] = l[k], l[i] })
			w.allHold(l)
		}
	}
	w := ofText(t, "var a : 0 .. 3; var b : 0 .. 3; var c : bool; var d : bool;")
	var l []api.Form
	for _, s := range []string{
		"a = 1", "a = 2", "a = -1", "b = 1", "a != 1", "a + 1 = 1", "a - 1 = 1", "a - 1 = -1", "a + 1 = b", "a = 1 + b", "true", "false", "c", "d", "!c", "!d",
		"c & d", "c | d", "d & c", "c & c & d", "c -> d", "d -> c", "c <-> d", "c = d",
		"(c | d) & a = 1 & b = 1", "(c | d | a = 1) & b = 1", "(c | d | a = 1 | b = 1) & true", "c | d & a = 1 & b = 1",
		"if c then d else a = 1", "if d then c else a = 1", "if c then a = 1 else d",
	} {
		l = append(l, sample.Formula(t, "["+s+"]"))
	}
	w.allHold(l)
}

// allHold checks what Many answers.
func (w world) allHold(l []api.Form) {
	w.T.Helper()
	owned := w.M.Handles()
	h, e := ctl.Many(w.Rel, l...)
	if len(h) != len(l) || e != api.OK || w.M.Handles() != owned+len(l) {
		w.T.Fatal(len(h), e, w.M.Handles(), owned)
	}
	for i, f := range l {
		w.Right(h[i], e)
		if got := w.Read(h[i], w.Now()); got != w.wanted(f) {
			w.T.Fatalf("%v: %x; want %x", f, got, w.wanted(f))
		}
		w.M.Drop(h[i])
	}
	if w.M.Handles() != owned {
		w.T.Fatal("a handle is in use twice")
	}
}

// An event may take place at any moment of a call.
func TestEvents(t *testing.T) {
	w := ofText(t, "var x : 0 .. 3; var b : bool; next x := if b then (x + 1) mod 4 else x; next b := b | x = 1; trans x = 2 -> b; fair x = 0 | x = 2; fair b;")
	const p, q = 0b11110111, 0b00100000
	f, g := w.Set(p), w.Set(q)
	formula := sample.Formula(t, "A [[x != 3] U EX [b & x = 2]] | EG AX [x < 3]")
	want := w.wanted(formula)
	if want == 0 || want == w.States() {
		t.Errorf("%b", want)
	}
	ex, eu, eg := w.table(oracle.EX(w.Graph, w.list(p))), w.table(oracle.EU(w.Graph, w.list(p), w.list(q))), w.table(oracle.EG(w.Graph, w.list(p)))
	for about, check := range map[string]func(){
		"Sat":    func() { w.GivesSet("Sat", want)(ctl.Sat(w.Rel, formula)) },
		"Within": func() { w.GivesSet("Within", want)(ctl.Within(w.Rel, formula, 1)) },
		"EX":     func() { w.GivesSet("EX", ex)(ctl.EX(w.Rel, f)) },
		"EU":     func() { w.GivesSet("EU", eu)(ctl.EU(w.Rel, f, g)) },
		"EG":     func() { w.GivesSet("EG", eg)(ctl.EG(w.Rel, f)) },
	} {
		for kind := api.EvCollect; kind <= api.EvTurn; kind++ {
			for _, level := range []int{0, 3, 5} {
				after := 0
				for w.M.Waits() == 0 {
					after += 1 + after/20
					w.M.Plan(api.Event{After: after, Kind: kind, Level: level}, api.Event{After: 1, Kind: api.EvCollect})
					check()
				}
				if after < 10 {
					t.Error(about, after)
				}
				for w.M.Waits() > 0 {
					w.M.Drop(w.Set(0b1))
				}
			}
		}
	}
}

func TestDerivedProperties(t *testing.T) {
	r := rand.New(rand.NewSource(51))
	unfair := 0
	for range 200 {
		w := world{atlas.Some(t, r, 100)}
		m, rl, h := w.M, w.Rel, w.Right
		sat := func(op int, l ...api.Form) int { return h(ctl.Sat(rl, api.Form{Op: op, Kids: l})) }
		not := func(f api.Form) api.Form { return api.Form{Op: api.FNot, Kids: []api.Form{f}} }
		rest := func(set int) int { return h(ops.Diff(m, rl.Valid(), set)) }
		some := func() (f api.Form, set int) {
			f = sample.Form(r, rl.Module().Vars, 3)
			return f, h(ctl.Sat(rl, f))
		}
		f, p := some()
		g, q := some()
		truth := api.Form{Op: api.FTerm, E: api.Term{Op: api.TBool, N: 1}}
		w.Disturb()
		w.Same("AX", sat(api.FAX, f), rest(sat(api.FEX, not(f))))
		w.Same("AF", sat(api.FAF, f), rest(sat(api.FEG, not(f))))
		w.Same("AG", sat(api.FAG, f), rest(sat(api.FEF, not(f))))
		w.Same("EF", sat(api.FEF, f), sat(api.FEU, truth, f))
		neither := api.Form{Op: api.FAnd, Kids: []api.Form{not(f), not(g)}}
		w.Same("AU", sat(api.FAU, f, g), rest(h(ops.Or(m, sat(api.FEG, not(g)), sat(api.FEU, not(g), neither)))))
		ex, eu, eg := h(ctl.EX(rl, p)), h(ctl.EU(rl, p, q)), h(ctl.EG(rl, p))
		w.Disturb()
		w.Same("EX", ex, sat(api.FEX, f))
		w.Same("EU", eu, sat(api.FEU, f, g))
		w.Same("EG", eg, sat(api.FEG, f))
		fair := h(fairs.Fair(rl))
		further := h(ops.And(m, p, h(ctl.EX(rl, eu))))
		w.Same("EU goes on", eu, h(ops.Or(m, h(ops.And(m, q, fair)), further)))
		w.Same("EG goes on", eg, h(ops.And(m, p, h(ctl.EX(rl, eg)))))
		w.Disturb()
		more, others := h(ops.Or(m, p, w.Set(w.some()))), h(ops.Or(m, q, w.Set(w.some())))
		greaterEX, greaterEU, greaterEG := h(ctl.EX(rl, more)), h(ctl.EU(rl, more, others)), h(ctl.EG(rl, more))
		w.Asks("EX is monotone", true)(ops.Within(m, ex, greaterEX))
		w.Asks("EU is monotone", true)(ops.Within(m, eu, greaterEU))
		w.Asks("EG is monotone", true)(ops.Within(m, eg, greaterEG))
		without := rest(fair)
		if w.Read(without, w.Now()) == 0 {
			continue
		}
		unfair++
		for _, set := range []int{sat(api.FAX, f), sat(api.FAF, f), sat(api.FAG, f), sat(api.FAU, f, g)} {
			w.Asks("universal", true)(ops.Within(m, without, set))
		}
		for _, set := range []int{sat(api.FEX, f), sat(api.FEF, f), sat(api.FEG, f), sat(api.FEU, f, g)} {
			w.Asks("existential", false)(ops.Meets(m, without, set))
		}
	}
	if unfair < 50 {
		t.Error(unfair)
	}
}

// bad returns wrong formulas over the variables x, a number, and b, which is Boolean, with what is wrong about them. The definition d is none of the variables.
func bad(t *testing.T) (l []api.Form, faults []api.Errno) {
	add := func(f api.Form, e api.Errno) { l, faults = append(l, f), append(faults, e) }
	for _, x := range []struct {
		text  string
		fault api.Errno
	}{
		{"EX [x]", api.ErrType},
		{"EX [d]", api.ErrName},
		{"[y] & [x]", api.ErrName},
		{"[x] & [y]", api.ErrType},
		{"[b] -> EG ([x] | [y])", api.ErrType},
		{"A [[b] U [x + b = 1]]", api.ErrType},
		{"E [[y = 1] U [x]]", api.ErrName},
		{"[x mod 0 = 1]", api.ErrRange},
		{"EF [b & y]", api.ErrName},
		{"!AG [if b then x else b]", api.ErrType},
	} {
		add(sample.Formula(t, x.text), x.fault)
	}
	word := func(op int, name string) api.Form { return api.Form{Op: api.FTerm, E: api.Term{Op: op, Name: name}} }
	deep := word(api.TName, "b")
	for range api.MaxDeep {
		deep = api.Form{Op: api.FEX, Kids: []api.Form{deep}}
	}
	add(api.Form{}, api.ErrKind)
	add(api.Form{Op: 14}, api.ErrKind)
	add(api.Form{Op: api.FEX}, api.ErrForm)
	add(api.Form{Op: api.FEX, Kids: []api.Form{word(api.TName, "y"), deep}}, api.ErrForm)
	add(api.Form{Op: api.FAnd, Kids: []api.Form{word(api.TName, "y"), {Op: 99}}}, api.ErrKind)
	add(word(api.TNext, "b"), api.ErrPlace)
	add(word(api.TName, ""), api.ErrName)
	add(deep, api.ErrDeep)
	return l, faults
}

func TestWrongArguments(t *testing.T) {
	w := ofText(t, "var x : 0 .. 2; var b : bool; def d := b; invar x = 2 -> b; next x := if x = 2 then 0 else x + 1; fair b;") // variable 6 is no bit's
	gone := w.Set(0b10)
	w.M.Drop(gone)
	later := w.Right(w.Put(0b0110, w.Next()))
	both := w.Right(w.Put(0b0110, []int{0, 1}))
	none := w.Right(w.M.Var(6))
	hidden := w.Right(w.Put(1<<15, []int{0, 2, 4, 6})) // it depends on variable 6 only where the bits are those of no state
	good := sample.Formula(t, "EX [b]")
	wrong, faults := bad(t)
	sets := map[api.Errno][]int{api.ErrHandle: {gone, -1, math.MinInt, math.MaxInt}, api.ErrArg: {later, both, none, hidden}}
	for want, l := range sets {
		for _, set := range l {
			w.Fails("EX", want)(ctl.EX(w.Rel, set))
			w.Fails("EG", want)(ctl.EG(w.Rel, set))
			w.Fails("EU", want)(ctl.EU(w.Rel, set, 1))
			w.Fails("EU", want)(ctl.EU(w.Rel, 1, set))
			w.Fails("EU", api.ErrHandle)(ctl.EU(w.Rel, set, -1))
			w.Fails("EU", api.ErrHandle)(ctl.EU(w.Rel, -1, set))
			w.Fails("Within", want)(ctl.Within(w.Rel, good, set))
			for i, f := range wrong {
				w.Fails("Within", faults[i])(ctl.Within(w.Rel, f, set))
				w.Fails("Within", api.ErrNone)(ctl.Within(nil, f, set))
			}
			w.Fails("EX", api.ErrNone)(ctl.EX(nil, set))
			w.Fails("EG", api.ErrNone)(ctl.EG(nil, set))
			w.Fails("EU", api.ErrNone)(ctl.EU(nil, set, set))
		}
	}
	fails := func(want api.Errno, r *rel.Rel, l ...api.Form) {
		t.Helper()
		owned := w.M.Handles()
		if h, e := ctl.Many(r, l...); len(h) != 0 || e != want || w.M.Handles() != owned {
			t.Errorf("%v: %v, %d; want %d", l, h, e, want)
		}
	}
	for i, f := range wrong {
		w.Fails("Sat", faults[i])(ctl.Sat(w.Rel, f))
		w.Fails("Sat", api.ErrNone)(ctl.Sat(nil, f))
		w.Fails("Within", faults[i])(ctl.Within(w.Rel, f, 1))
		fails(faults[i], w.Rel, f)
		fails(faults[i], w.Rel, good, f)
		fails(faults[i], w.Rel, f, good, api.Form{}, good)
		fails(api.ErrNone, nil, good, f)
	}
	fails(api.ErrNone, nil, good)
	fails(api.ErrNone, nil)
	fails(api.OK, w.Rel)
	w.Fails("Sat", api.ErrNone)(ctl.Sat(nil, good))
	w.Fails("Within", api.ErrNone)(ctl.Within(nil, good, 1))
}

// After a call that finds no room everything is as before.
func TestLittleRoom(t *testing.T) {
	r := rand.New(rand.NewSource(52))
	failed, done := map[string]int{}, map[string]int{}
	truth := api.Form{Op: api.FTerm, E: api.Term{Op: api.TBool, N: 1}}
	not := api.Form{Op: api.FNot, Kids: []api.Form{truth}}
	for range 2500 {
		mod := sample.Module(r)
		vars := 2 * typing.Bits(mod)
		small, e := atlas.New(t, r, mod, vars, 5+r.Intn(6*vars+1))
		if e != api.OK {
			continue
		}
		w := world{small}
		p := w.some()
		set, e := w.Put(p, w.Now())
		if e != api.OK {
			continue
		}
		owned := w.M.Handles()
		f := sample.Form(r, mod.Vars, 3)
		want := w.wanted(f)
		in := w.list(p)
		for _, x := range []struct {
			about string
			want  []uint64
			call  func() ([]int, api.Errno)
		}{
			{"Sat", []uint64{want}, func() ([]int, api.Errno) { return listed(ctl.Sat(w.Rel, f)) }},
			{"Within", []uint64{want}, func() ([]int, api.Errno) { return listed(ctl.Within(w.Rel, f, 1)) }},
			{"Many", []uint64{w.States(), 0, want}, func() ([]int, api.Errno) { return ctl.Many(w.Rel, truth, not, f) }},
			{"EX", []uint64{w.table(oracle.EX(w.Graph, in))}, func() ([]int, api.Errno) { return listed(ctl.EX(w.Rel, set)) }},
			{"EU", []uint64{w.table(oracle.EU(w.Graph, nil, in))}, func() ([]int, api.Errno) { return listed(ctl.EU(w.Rel, 0, set)) }},
			{"EG", []uint64{w.table(oracle.EG(w.Graph, in))}, func() ([]int, api.Errno) { return listed(ctl.EG(w.Rel, set)) }},
		} {
			w.Disturb()
			l, e := x.call()
			switch {
			case e == api.OK && w.M.Handles() == owned+len(x.want) && slices.Equal(w.tables(l), x.want):
				done[x.about]++
				w.M.Drop(l...)
			case e == api.ErrRoom && len(l) == 0 && w.M.Handles() == owned:
				failed[x.about]++
			default:
				t.Fatal(x.about, l, e, w.M.Handles(), owned, x.want)
			}
			if w.Read(set, w.Now()) != p {
				t.Fatal(x.about, "a set has changed")
			}
		}
	}
	for about, many := range done {
		if failed[about] < 20 || many < 300 {
			t.Error(about, failed[about], many)
		}
	}
	if len(done) != 6 {
		t.Error(slices.Sorted(maps.Keys(done)))
	}
}

// listed returns an answer as the only one of several, or as none if it is an error's.
func listed(h int, e api.Errno) ([]int, api.Errno) {
	if h == 0 {
		return nil, e
	}
	return []int{h}, e
}

// tables returns the tables of sets.
func (w world) tables(l []int) (tables []uint64) {
	for _, h := range l {
		tables = append(tables, w.Read(h, w.Now()))
	}
	return tables
}

// Where the room is Enough for the handles, no call fails for it.
func TestEnoughRoom(t *testing.T) {
	r := rand.New(rand.NewSource(53))
	for done := 0; done < 500; {
		mod := sample.Module(r)
		vars := 2 * typing.Bits(mod)
		if vars > 6 {
			continue
		}
		done++
		handles := 2 + 2 + len(mod.Next) + len(mod.Trans) + 1 + len(mod.Fair) + 2 // those of answers are the last ones
		small, e := atlas.New(t, r, mod, vars, trial.Enough(vars, handles))
		if e != api.OK {
			t.Fatal(e)
		}
		w := world{small}
		for range 3 {
			w.holds(sample.Form(r, mod.Vars, 6))
			w.answers(w.some(), w.some())
		}
	}
}

// takes checks that a call on the relation of a model asks for no more than so many nodes and leaves no handle.
func takes(t *testing.T, s string, nodes int, call func(m *dd.Man, r *rel.Rel)) {
	t.Helper()
	mod := sample.Model(t, s)
	m, e := dd.New(2*typing.Bits(mod), 1<<18)
	if e != api.OK {
		t.Fatal(e)
	}
	r, e := rel.New(m, mod)
	if e != api.OK {
		t.Fatal(s, e)
	}
	owned := m.Handles()
	m.Plan(api.Event{After: nodes, Kind: api.EvCollect})
	call(m, r)
	if m.Waits() == 0 {
		t.Errorf("%s takes more than %d nodes", s, nodes)
	}
	if m.Handles() != owned {
		t.Errorf("%s: %d handles; want %d", s, m.Handles(), owned)
	}
}

// gives checks how many states there are in which a formula holds.
func gives(t *testing.T, m *dd.Man, r *rel.Rel, s string, want int) {
	t.Helper()
	h, e := ctl.Sat(r, sample.Formula(t, s))
	if n, fault := satc.Count(m, h, r.Layout().AllNow()...); cnt.Cmp(n, cnt.Of(uint64(want))) != 0 || e != api.OK || fault != api.OK {
		t.Errorf("%.99s: %v, %d; want %d", s, n, e, want)
	}
	m.Drop(h)
}

// What is known of one part of a formula is not found out once more for an equal one, be it in another formula.
func TestEqualParts(t *testing.T) {
	const model = "var a : 0 .. 63; var b : 0 .. 63; trans next(a) = a + 1 | a = 63; trans next(b) = b; fair b < 63;"
	const part = "E [[b = 3 -> a < 50] U EG [a mod 3 != 1 | a = a * 1]]"
	many := part
	for range 6 {
		many = "((" + many + ") & !(" + many + ") | (" + many + "))"
	}
	for _, f := range []string{part, many} {
		takes(t, model, 5000, func(m *dd.Man, r *rel.Rel) { gives(t, m, r, f, 4032) })
	}
	takes(t, model, 5000, func(m *dd.Man, r *rel.Rel) {
		h, e := ctl.Many(r, slices.Repeat([]api.Form{sample.Formula(t, part)}, 1000)...)
		if len(h) != 1000 || e != api.OK {
			t.Error(len(h), e)
		}
		m.Drop(h...)
	})
}

// counting is a model of 4096 states, from each of which there is a transition to the next one, and from the last one to itself.
const counting = "var a : 0 .. 63; var b : 0 .. 63; next a := if b < 63 | a = 63 then a else a + 1; next b := if b < 63 then b + 1 else if a < 63 then 0 else 63; "

// In great models few nodes are asked for. It is found out once where fair paths start, and within few states it takes few steps.
func TestGreatModels(t *testing.T) {
	const numbers = "var a : 0 .. 63; var b : 0 .. 63; var c : 0 .. 63; fair a = b; fair b = c; "
	for _, x := range []struct {
		model, formula string
		nodes, many    int
	}{
		{numbers, "AG EF [a = b & b = c]", 20000, 1 << 18},
		{numbers + "next a := b; next b := c;", "AG EF [a = b & b = c]", 40000, 1 << 18},
		{numbers + "next a := b; next b := c;", "EG [a != b] | AF [a = b & b = c]", 40000, 64},
		{counting + "fair a = 63;", "EX [b < 63] & EX [2 < b] & AX [a < 60] & (AX [4 < a] | EX [5 < b & b < 9])", 240000, 55*60 + 5*3},
		{counting + "fair a = 63;", "[a = 63] & ![b < 9] | [a < 9]", 2000, 64*9 + 55},
	} {
		takes(t, x.model, x.nodes, func(m *dd.Man, r *rel.Rel) { gives(t, m, r, x.formula, x.many) })
	}
	takes(t, counting, 3000, func(m *dd.Man, r *rel.Rel) {
		care, e := blast.Truth(m, r.Layout(), sample.Formula(t, "[a = 63 & 59 < b]").E)
		if e != api.OK {
			t.Fatal(e)
		}
		h, e := ctl.Within(r, sample.Formula(t, "EG [a < 63] | AX [b = 62] | AF [a = 63 & b = 0]"), care)
		if e != api.OK {
			t.Fatal(e)
		}
		s, e := states.List(r, h, 99)
		if !slices.EqualFunc(s, [][]int{{63, 61}}, slices.Equal) || e != api.OK {
			t.Error(s, e)
		}
		m.Drop(care, h)
	})
}

// There is no limit of steps: it takes 4097 of them to get from one end of a chain to the other. The end is followed by the second state then.
func TestManySteps(t *testing.T) {
	closed := strings.Replace(sample.Chain, "trans !c;", "fair c; fair a = 0 & b = 1;", 1)
	for s, want := range map[string]int{
		"EF [c]":                          4097,
		"AF [a = 0 & b = 0 & !c]":         1,
		"AG [a + b != 0 | c]":             4096,
		"E [[a < 63] U [a = 63 & b = 0]]": 4034,
		"A [[!c] U [c]]":                  4097,
		"AX [a = 5]":                      64,
		"EX [a = 5] & AX [b = 7]":         1,
		"EG [!c]":                         0,
		"EG EX [c | a != 9 | b != 9]":     0,
	} {
		takes(t, closed, math.MaxInt, func(m *dd.Man, r *rel.Rel) { gives(t, m, r, s, want) })
	}
	for s, want := range map[string]int{"EF [true]": 0, "AF [false]": 4097, "EG EX [true]": 0} {
		takes(t, sample.Chain, math.MaxInt, func(m *dd.Man, r *rel.Rel) { gives(t, m, r, s, want) })
	}
}
