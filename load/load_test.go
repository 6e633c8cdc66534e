package load_test

import (
	"fmt"
	"math"
	"math/rand"
	"slices"
	"testing"

	"voussoir/api"
	"voussoir/dd"
	"voussoir/defs"
	"voussoir/events"
	"voussoir/graph"
	"voussoir/group"
	"voussoir/load"
	"voussoir/ops"
	"voussoir/oracle"
	"voussoir/perm"
	"voussoir/rel"
	"voussoir/reorder"
	"voussoir/sample"
	"voussoir/states"
	"voussoir/supp"
	"voussoir/terms"
	"voussoir/typing"
	"voussoir/vset"
)

// roomy are options with room for all models here.
var roomy = api.Opts{Room: 1 << 17}

// world is a model, of which it can be told by enumeration what is wanted.
type world struct {
	*load.Model
	t *testing.T
	g graph.Graph
}

// of returns the world of a valid module.
func of(t *testing.T, mod api.Module, o api.Opts) world {
	t.Helper()
	m, p, e := load.Of(mod, o)
	if m == nil || e != api.OK || p != (api.Place{}) {
		t.Fatal(mod, o, p, e)
	}
	g, e := graph.Of(mod)
	if e != api.OK {
		t.Fatal(e)
	}
	return world{m, t, g}
}

// ofText returns the world of the model with that text.
func ofText(t *testing.T, s string, o api.Opts) world {
	t.Helper()
	return of(t, sample.Model(t, s), o)
}

// man returns the manager.
func (w world) man() *dd.Man {
	return w.Rel().Man()
}

// sat reports for each state whether f holds there.
func (w world) sat(f api.Form) []bool {
	w.t.Helper()
	f, e := defs.Form(f, w.Module().Defs)
	if e != api.OK {
		w.t.Fatal(f, e)
	}
	l, e := oracle.Sat(w.g, w.Module(), f)
	if e != api.OK {
		w.t.Fatal(f, e)
	}
	return l
}

// reached reports for each state whether it is reachable.
func (w world) reached() []bool {
	return w.g.Reach(w.g.Init...)
}

// both returns the intersection of two sets.
func both(p, q []bool) (l []bool) {
	for i := range p {
		l = append(l, p[i] && q[i])
	}
	return l
}

// gives returns a check that a call has answered a new handle of that set, which is dropped.
func (w world) gives(about any, want []bool) func(h int, e api.Errno) {
	m := w.man()
	owned := m.Handles()
	return func(h int, e api.Errno) {
		w.t.Helper()
		if h < 2 || e != api.OK || m.Handles() != owned+1 {
			w.t.Fatal(about, h, e, m.Handles(), owned)
		}
		for i, s := range w.g.States {
			if yes, e := states.Has(w.Rel(), h, s); yes != want[i] || e != api.OK {
				w.t.Fatal(about, s, yes, e, w.Module())
			}
		}
		vars, e := supp.Support(m, h)
		inside, fault := ops.Within(m, h, w.Rel().Valid())
		if !vset.Within(vars, w.Rel().Layout().AllNow()) || !inside || e != api.OK || fault != api.OK {
			w.t.Fatal(about, "no set of states")
		}
		m.Drop(h)
	}
}

func TestTheExample(t *testing.T) {
	m, at, e := load.New("var x : bool; init !x; next x := !x;", api.Opts{Room: 4096})
	if m == nil || at != 36 || e != api.OK {
		t.Fatal(at, e)
	}
	w := world{m, t, graph.Graph{States: [][]int{{0}, {1}}}}
	w.gives("Reached", []bool{true, true})(m.Reached())
	f := sample.Formula(t, "EX [x]")
	w.gives("Sat", []bool{true, false})(m.Sat(f))
	w.gives("Set", []bool{false, true})(m.Set(f.Kids[0].E))
	m.Close()
}

// known returns the variables of a model and its definitions as if they were variables.
func known(t *testing.T, m api.Module) []api.Var {
	t.Helper()
	l := slices.Clone(m.Vars)
	for _, d := range m.Defs {
		x, e := defs.Inline(d.E, m.Defs)
		y, fault := terms.Type(m.Vars, x, false)
		if e != api.OK || fault != api.OK {
			t.Fatal(d, e, fault)
		}
		l = append(l, api.Var{Name: d.Name, Bool: y.Bool, Lo: y.Lo, Hi: y.Hi})
	}
	return l
}

// some returns options for a model with so many variables of a manager.
func some(r *rand.Rand, vars int) api.Opts {
	o := api.Opts{Room: roomy.Room, Narrow: r.Intn(2) == 0, Sift: r.Intn(2) == 0}
	if r.Intn(2) == 0 {
		o.Order = r.Perm(vars)
	}
	if r.Intn(2) == 0 {
		o.Events = events.Spread(r.Uint64(), 1+r.Intn(30), 1+r.Intn(20), vars)
	}
	return o
}

// The sets are those that enumeration yields, whatever the options are.
func TestRandomModels(t *testing.T) {
	r := rand.New(rand.NewSource(56))
	narrowed, happened := 0, 0
	for range 500 {
		mod := sample.Module(r)
		vars := known(t, mod)
		for i := range r.Intn(3) {
			mod.Specs = append(mod.Specs, api.Spec{Name: fmt.Sprint("s", i), F: sample.Form(r, vars, 3)})
		}
		o := some(r, 2*typing.Bits(mod))
		before := fmt.Sprint(mod, o)
		w := of(t, mod, o)
		reached := w.reached()
		for range 3 {
			f := sample.Form(r, vars, 3)
			want := w.sat(f)
			if o.Narrow {
				narrow := both(want, reached)
				if !slices.Equal(narrow, want) {
					narrowed++
				}
				want = narrow
			}
			w.gives(f, want)(w.Sat(f))
			x := sample.Term(r, vars, nil, true, 3)
			w.gives(x, w.sat(api.Form{Op: api.FTerm, E: x}))(w.Set(x))
			w.gives("Reached", reached)(w.Reached())
		}
		if len(o.Events) > w.man().Waits() {
			happened++
		}
		if fmt.Sprint(mod, o) != before || fmt.Sprint(w.Module()) != fmt.Sprint(mod) {
			t.Fatal("a module has changed", w.Module())
		}
		w.Close()
		if w.man().Handles() != 2 {
			t.Fatal(w.man().Handles())
		}
	}
	if narrowed < 50 || happened < 50 {
		t.Error(narrowed, happened)
	}
}

// built returns the manager of a model that is loaded step by step.
func built(t *testing.T, mod api.Module, o api.Opts) *dd.Man {
	t.Helper()
	vars := 2 * typing.Bits(mod)
	right := func(e api.Errno) {
		t.Helper()
		if e != api.OK {
			t.Fatal(e)
		}
	}
	m, e := dd.New(vars, o.Room)
	right(e)
	if len(o.Order) > 0 {
		right(reorder.To(m, o.Order))
	}
	relation, e := rel.New(m, mod)
	right(e)
	if o.Sift {
		var pairs [][]int
		for v := 0; v < vars; v += 2 {
			pairs = append(pairs, []int{v, v + 1})
		}
		g, e := group.New(m, pairs...)
		right(e)
		_, e = g.Sift(120, relation.Parts()...)
		right(e)
	}
	return m
}

// paired reports whether in an order each bit of the current state is followed by that of the next state.
func paired(order []int) bool {
	for level, v := range order {
		if v%2 == 0 && (level+1 == len(order) || order[level+1] != v+1) {
			return false
		}
	}
	return true
}

// The variables are in the order that is asked for, or in one to which sifting leads from there, with the bits of both states side by side.
func TestOrders(t *testing.T) {
	r := rand.New(rand.NewSource(57))
	moved := 0
	for range 300 {
		mod := sample.Module(r)
		vars := 2 * typing.Bits(mod)
		o := some(r, vars)
		w := of(t, mod, o)
		man, order := w.man(), w.man().Order()
		first := o.Order
		if len(first) == 0 {
			first = perm.Ident(vars)
		}
		if !o.Sift && !slices.Equal(order, first) {
			t.Fatal(order, first)
		}
		if o.Sift && !paired(order) {
			t.Fatal(order)
		}
		if o.Sift && !slices.Equal(order, first) {
			moved++
		}
		m := built(t, mod, o)
		if !slices.Equal(m.Order(), order) || man.Vars() != vars || man.Room() != o.Room || man.Waits() != len(o.Events) || man.Handles() != m.Handles() {
			t.Fatal(m.Order(), order, man.Vars(), man.Room(), man.Waits(), man.Handles(), m.Handles())
		}
		m.Collect()
		if w.Size() != m.Len() || man.Len() != m.Len() || man.Collect() != 0 {
			t.Fatal(w.Size(), m.Len())
		}
	}
	if moved < 30 {
		t.Error(moved)
	}
}

// On the way to a better order, sifting passes some that are worse than the first one. With less growth another one is left here.
func TestGrow(t *testing.T) {
	mod := sample.Model(t, "var a : -1 .. 1; var b : bool; var c : -3 .. 1; invar b; next a := if a < 1 then a + 1 else 1; next b := b | b & b; fair b | c != a;")
	o := api.Opts{Room: roomy.Room, Order: []int{10, 3, 11, 0, 6, 9, 5, 2, 7, 4, 8, 1}, Sift: true}
	w, m := of(t, mod, o), built(t, mod, o)
	if !slices.Equal(w.man().Order(), m.Order()) {
		t.Error(w.man().Order(), m.Order())
	}
}

// Where formulas count in reachable states only, no nodes are asked for to look at others: here there are four, and a chain of 4096 that are not reachable.
func TestNarrow(t *testing.T) {
	const s = "var on : bool; var a : 0 .. 63; var b : 0 .. 63; init !on & a = 0 & b = 0; trans next(on) = on; trans !on -> next(a) = (a + 1) mod 4 & next(b) = 0; trans on -> next(b) = (b + 1) mod 64 & next(a) = (if b = 63 then a + 1 else a); fair a = 3 | on; "
	f := sample.Formula(t, "AG EF [a = 2 | a = 63 & b = 63] & EG [a < 63]")
	for narrow, nodes := range map[bool]int{true: 10000, false: 100000} {
		m, _, e := load.New(s, api.Opts{Room: 1 << 18, Narrow: narrow, Events: []api.Event{{After: nodes, Kind: api.EvCollect}}})
		if e != api.OK {
			t.Fatal(e)
		}
		h, e := m.Sat(f)
		n, fault := states.Count(m.Rel(), h)
		if e != api.OK || fault != api.OK || narrow && fmt.Sprint(n) != "[4]" {
			t.Error(n, e, fault)
		}
		if few := m.Rel().Man().Waits() == 1; few != narrow {
			t.Error(narrow, few)
		}
	}
}

func TestWrongModels(t *testing.T) {
	good := api.Opts{Room: 4096}
	bad := api.Opts{Room: -1, Order: []int{1}, Events: []api.Event{{}}}
	for _, o := range []api.Opts{good, bad} {
		for s, want := range map[string]struct {
			at int
			e  api.Errno
		}{
			"var x":                {5, api.ErrSyntax},
			"var x : bool; init ?": {19, api.ErrToken},
			"init true":            {9, api.ErrSyntax},
			"\x00":                 {0, api.ErrToken},
		} {
			if m, at, e := load.New(s, o); m != nil || at != want.at || e != want.e {
				t.Errorf("%q: %d, %d", s, at, e)
			}
		}
		for s, want := range map[string]struct {
			p api.Place
			e api.Errno
		}{
			"var x : 0 .. 2; init x;":                          {api.Place{Kind: api.InInit}, api.ErrType},
			"var x : bool; def a := b; def b := a;":            {api.Place{Kind: api.InDefs}, api.ErrCycle},
			"var x : bool; spec s : [x]; spec t : EX [y];":     {api.Place{Kind: api.InSpecs, I: 1}, api.ErrName},
			"var x : bool; var y : 3 .. 2;":                    {api.Place{Kind: api.InVars, I: 1}, api.ErrRange},
			"var x : bool; fair x; fair next(x);":              {api.Place{Kind: api.InFair, I: 1}, api.ErrPlace},
			"var x : bool; next x := !x; next x := x; init 1;": {api.Place{Kind: api.InInit}, api.ErrType},
		} {
			if m, p, e := load.Of(sample.Model(t, s), o); m != nil || p != want.p || e != want.e {
				t.Errorf("%q: %v, %d", s, p, e)
			}
			if m, at, e := load.New(s, o); m != nil || at != len(s) || e != want.e {
				t.Errorf("%q: %d, %d", s, at, e)
			}
		}
	}
}

func TestWrongOptions(t *testing.T) {
	const s = "var x : 0 .. 2; next x := if x = 2 then 0 else x + 1;" // two bits
	order, plan := []int{3, 1, 0, 2}, []api.Event{{After: 1, Kind: api.EvSwap, Level: 2}, {After: 7, Kind: api.EvTurn, Level: 99}}
	many := slices.Repeat(plan, api.MaxEvents/2+1)
	for i, x := range []struct {
		room   int
		order  []int
		events []api.Event
		want   api.Errno
	}{
		{1 << 10, order, plan, api.OK},
		{api.MaxRoom, nil, many[:api.MaxEvents], api.OK},
		{0, nil, nil, api.ErrRange},
		{-1, order, plan, api.ErrRange},
		{0, []int{0}, many, api.ErrRange},
		{math.MinInt, []int{0}, many, api.ErrRange},
		{api.MaxRoom + 1, nil, nil, api.ErrRange},
		{math.MaxInt, order[:3], []api.Event{{}}, api.ErrRange},
		{1, []int{0, 1}, plan, api.ErrArg},
		{1 << 10, []int{0, 1, 2}, plan, api.ErrArg},
		{1 << 10, []int{1, 0}, many, api.ErrArg},
		{1 << 10, []int{0, 1, 2, 3, 4}, nil, api.ErrArg},
		{1 << 10, []int{0, 1, 2, 2}, many, api.ErrArg},
		{1 << 10, []int{0, 1, 2, 4}, nil, api.ErrArg},
		{1 << 10, []int{-1, 1, 2, 3}, []api.Event{{}}, api.ErrArg},
		{1, order, many, api.ErrMany},
		{1, nil, many[:api.MaxEvents+1], api.ErrMany},
		{1, nil, []api.Event{{After: 1, Kind: api.EvSwap, Level: 3}, {}}, api.ErrRange},
		{1 << 10, nil, []api.Event{plan[0], {After: 0, Kind: api.EvCollect}}, api.ErrRange},
		{1, nil, []api.Event{{After: 1, Kind: 4}, {After: 0, Kind: 1}}, api.ErrKind},
		{1, order, plan, api.ErrRoom},
	} {
		for k := range 4 {
			o := api.Opts{Room: x.room, Order: x.order, Events: x.events, Narrow: k&1 == 1, Sift: k&2 == 2}
			m, at, e := load.New(s, o)
			if (m == nil) != (e != api.OK) || at != len(s) || e != x.want {
				t.Errorf("%d: %d, %d; want %d", i, at, e, x.want)
			}
			m, p, e := load.Of(sample.Model(t, s), o)
			if (m == nil) != (e != api.OK) || p != (api.Place{}) || e != x.want {
				t.Errorf("%d: %v, %d; want %d", i, p, e, x.want)
			}
		}
	}
	// Without bits there are no variables, and no levels to swap.
	for _, x := range []struct {
		o    api.Opts
		want api.Errno
	}{
		{api.Opts{Room: 1}, api.OK},
		{api.Opts{Room: 1, Sift: true, Narrow: true, Order: []int{}, Events: []api.Event{{After: 1, Kind: api.EvTurn}}}, api.OK},
		{api.Opts{Room: 1, Order: []int{0}}, api.ErrArg},
		{api.Opts{Room: 1, Events: []api.Event{{After: 1, Kind: api.EvSwap}}}, api.ErrRange},
	} {
		if m, at, e := load.New("", x.o); (m == nil) != (e != api.OK) || at != 0 || e != x.want {
			t.Error(x, at, e)
		}
	}
}

func TestWrongFormulas(t *testing.T) {
	long := "x = 1"
	for len(long) < 3000 {
		long = "(" + long + " & " + long + ")"
	}
	text := "var x : 0 .. 2; var b : bool; def d := x + 1; def e := b & x = 1; def long := " + long + "; init x = 0;"
	deep := sample.Formula(t, "[b]")
	for range api.MaxDeep {
		deep = api.Form{Op: api.FEX, Kids: []api.Form{deep}}
	}
	for _, narrow := range []bool{false, true} {
		w := ofText(t, text, api.Opts{Room: 1 << 16, Narrow: narrow})
		owned := w.man().Handles()
		fails := func(about any, want api.Errno) func(h int, e api.Errno) {
			return func(h int, e api.Errno) {
				t.Helper()
				if h != 0 || e != want || w.man().Handles() != owned {
					t.Errorf("%v: %d, %d; want %d", about, h, e, want)
				}
			}
		}
		for s, want := range map[string]api.Errno{
			"[x]": api.ErrType, "EX [d]": api.ErrType, "[y] & [x]": api.ErrName, "[x] & [y]": api.ErrType, "[d mod 0 = 1]": api.ErrRange,
			"AG [e & d]": api.ErrType, "[x] & [long & long & long & long & long & long & long & long]": api.ErrLong, "[y] & [long | long | long | long | long | long | long | long]": api.ErrLong,
		} {
			fails(s, want)(w.Sat(sample.Formula(t, s)))
		}
		for s, want := range map[string]api.Errno{"x": api.ErrType, "d": api.ErrType, "y": api.ErrName, "x = y": api.ErrName, "x & b": api.ErrType, "next(b)": api.ErrPlace, "e & next(b)": api.ErrPlace, "next(y)": api.ErrPlace} {
			fails(s, want)(w.Set(sample.Model(t, "trans "+s+";").Trans[0]))
		}
		fails("deep", api.ErrDeep)(w.Sat(deep))
		fails("no operator", api.ErrKind)(w.Sat(api.Form{}))
		fails("no operator", api.ErrKind)(w.Set(api.Term{}))
		fails("no operand", api.ErrForm)(w.Sat(api.Form{Op: api.FEX}))
		w.gives("right", w.sat(sample.Formula(t, "[x = 0 & b]")))(w.Set(sample.Formula(t, "[d = 1 & b]").E))
	}
}

// What is wrong about a formula is told even if there is no room for the reachable states.
func TestFaultsAndRoom(t *testing.T) {
	// What comes by in n goes through all a and b alike, so that these are equal in reachable states, which takes many nodes.
	s := "var n : bool; "
	for _, name := range []string{"a", "b"} {
		before := "n"
		for i := range 7 {
			v := fmt.Sprint(name, i)
			s += "var " + v + " : bool; init !" + v + "; next " + v + " := " + before + "; "
			before = v
		}
	}
	m, _, e := load.New(s, api.Opts{Room: 300, Narrow: true})
	if e != api.OK {
		t.Fatal(e)
	}
	if _, e := m.Reached(); e != api.ErrRoom {
		t.Fatal(e)
	}
	owned := m.Rel().Man().Handles()
	for s, want := range map[string]api.Errno{"[a0 = 1] & [y]": api.ErrType, "EX [y]": api.ErrName, "EX [a0]": api.ErrRoom} {
		if h, e := m.Sat(sample.Formula(t, s)); h != 0 || e != want || m.Rel().Man().Handles() != owned {
			t.Error(s, h, e)
		}
	}
	if h, e := m.Set(sample.Formula(t, "[a0]").E); h == 0 || e != api.OK {
		t.Error(h, e) // which asks for no reachable states
	}
}

// fill fills the manager of a model with functions until there is room for few nodes.
func fill(r *rand.Rand, m *dd.Man) {
	last, l := 1, []int{}
	for range 100 {
		v, e := m.Var(r.Intn(m.Vars()))
		if e != api.OK {
			break
		}
		not, _ := m.Not(last)
		h, e := m.Ite(v, not, last)
		m.Drop(v, not)
		if e != api.OK {
			break
		}
		last, l = h, append(l, h)
	}
	m.Drop(l[max(len(l)-r.Intn(4), 0):]...)
}

// A call that finds no room leaves everything as it was.
func TestLittleRoom(t *testing.T) {
	r := rand.New(rand.NewSource(58))
	none, failed, done := 0, map[string]int{}, map[string]int{}
	for range 2500 {
		mod := sample.Module(r)
		vars := 2 * typing.Bits(mod)
		o := some(r, vars)
		o.Room = 5 + r.Intn(8*vars+1)
		m, p, e := load.Of(mod, o)
		if e != api.OK {
			if m != nil || e != api.ErrRoom || p != (api.Place{}) {
				t.Fatal(p, e)
			}
			none++
			continue
		}
		g, _ := graph.Of(mod)
		w := world{m, t, g}
		if o.Sift && !paired(w.man().Order()) {
			t.Fatal(w.man().Order())
		}
		if vars > 0 {
			fill(r, w.man())
		}
		f := sample.Form(r, mod.Vars, 3)
		x := sample.Term(r, mod.Vars, nil, true, 3)
		want := w.sat(f)
		if o.Narrow {
			want = both(want, w.reached())
		}
		for _, call := range []struct {
			about string
			want  []bool
			do    func() (int, api.Errno)
		}{
			{"Sat", want, func() (int, api.Errno) { return m.Sat(f) }},
			{"Set", w.sat(api.Form{Op: api.FTerm, E: x}), func() (int, api.Errno) { return m.Set(x) }},
			{"Reached", w.reached(), m.Reached},
		} {
			owned := w.man().Handles()
			check := w.gives(call.about, call.want)
			h, e := call.do()
			if e == api.OK {
				check(h, e)
				done[call.about]++
			} else if e != api.ErrRoom || h != 0 || w.man().Handles() != owned {
				t.Fatal(call.about, h, e, w.man().Handles(), owned)
			} else {
				failed[call.about]++
			}
		}
	}
	for _, about := range []string{"Sat", "Set", "Reached"} {
		if none < 200 || failed[about] < 20 || done[about] < 200 {
			t.Error(about, none, failed, done)
		}
	}
}

// A model has what was given to it in memory of its own.
func TestMemory(t *testing.T) {
	mod := sample.Model(t, "var x : 0 .. 2; def d := x + 1; invar d < 4; init x = 0; next x := if d = 3 then 0 else d; trans next(x) = 0 | x < next(x); fair d = 2; spec s : EF [d = 3];")
	o := api.Opts{Room: 4096, Order: []int{3, 2, 1, 0}, Events: []api.Event{{After: 1 << 20, Kind: api.EvTurn}}}
	w := of(t, mod, o)
	want := fmt.Sprint(mod)
	flat := fmt.Sprint(w.Rel().Module())
	for _, l := range [][]api.Term{{mod.Defs[0].E}, mod.Init, mod.Invar, {mod.Next[0].E}, mod.Trans, mod.Fair, {mod.Specs[0].F.Kids[0].E}} {
		l[0].Kids[0] = api.Term{Op: 99}
		l[0] = api.Term{}
	}
	mod.Specs[0].F.Kids[0] = api.Form{}
	mod.Vars[0], mod.Defs[0], mod.Next[0], mod.Specs[0] = api.Var{}, api.Def{}, api.Def{}, api.Spec{}
	o.Order[0], o.Events[0].After = 7, 1
	if got := fmt.Sprint(w.Module()); got != want || fmt.Sprint(w.Rel().Module()) != flat {
		t.Error(got)
	}
	w.gives("Sat", []bool{true, true, true})(w.Sat(sample.Formula(t, "EF [d = 3]")))
	if w.man().Waits() != 1 || !slices.Equal(w.man().Order(), []int{3, 2, 1, 0}) {
		t.Error(w.man().Waits(), w.man().Order())
	}
	if w.Rel() != w.Rel() || fmt.Sprint(w.Module()) != want {
		t.Error("another relation")
	}
}

// The events are scheduled when all else is done, and happen in the calls that follow.
func TestEvents(t *testing.T) {
	plan := []api.Event{{After: 1, Kind: api.EvTurn}, {After: 5, Kind: api.EvSwap, Level: 1}, {After: 5, Kind: api.EvCollect}, {After: 5, Kind: api.EvSwap, Level: 3}}
	w := ofText(t, "var x : 0 .. 2; var b : bool; init x = 1 & b; next x := if b then 2 - x else x; fair b;", api.Opts{Room: 4096, Order: []int{5, 0, 1, 2, 3, 4}, Events: plan, Narrow: true})
	if order := w.man().Order(); w.man().Waits() != 4 || !slices.Equal(order, []int{5, 0, 1, 2, 3, 4}) {
		t.Fatal(w.man().Waits(), order)
	}
	f := sample.Formula(t, "EG [x = 1] & !AX [b]")
	w.gives("Sat", both(w.sat(f), w.reached()))(w.Sat(f))
	if order := w.man().Order(); w.man().Waits() != 0 || !slices.Equal(order, []int{4, 2, 3, 0, 1, 5}) {
		t.Error(w.man().Waits(), order)
	}
}

func TestNil(t *testing.T) {
	var m *load.Model
	mod := m.Module()
	reached, e := m.Reached()
	sat, e2 := m.Sat(api.Form{})
	set, e3 := m.Set(api.Term{})
	m.Close()
	if len(mod.Vars) != 0 || fmt.Sprint(mod) != fmt.Sprint(api.Module{}) || m.Rel() != nil || m.Size() != 0 {
		t.Error("no model")
	}
	if reached != 0 || sat != 0 || set != 0 || e != api.ErrNone || e2 != api.ErrNone || e3 != api.ErrNone {
		t.Error(e, e2, e3)
	}
}
