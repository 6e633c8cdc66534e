package defs_test

import (
	"slices"
	"strconv"
	"strings"
	"testing"

	"voussoir/api"
	"voussoir/defs"
	"voussoir/forms"
	"voussoir/terms"
)

func op(k int, kids ...api.Term) api.Term { return api.Term{Op: k, Kids: kids} }
func num(n int) api.Term                  { return api.Term{Op: api.TNum, N: n} }
func name(s string) api.Term              { return api.Term{Op: api.TName, Name: s} }
func next(s string) api.Term              { return api.Term{Op: api.TNext, Name: s} }
func add(a, b api.Term) api.Term          { return op(api.TAdd, a, b) }
func def(s string, t api.Term) api.Def    { return api.Def{Name: s, E: t} }
func formula(t api.Term) api.Form         { return api.Form{Op: api.FTerm, E: t} }
func quantified(k int, kids ...api.Form) api.Form {
	return api.Form{Op: k, Kids: kids}
}

// list returns definitions that are written as "a=b+c d=": each is the sum of the names.
func list(s string) (l []api.Def) {
	for _, text := range strings.Fields(s) {
		left, right, _ := strings.Cut(text, "=")
		t := num(0)
		for _, used := range strings.FieldsFunc(right, func(c rune) bool { return c == '+' }) {
			t = add(t, name(used))
		}
		l = append(l, def(left, t))
	}
	return l
}

func TestTheExample(t *testing.T) {
	l := []api.Def{def("a", add(name("b"), num(1))), def("b", num(2))}
	if o, e := defs.Order(l); !slices.Equal(o, []int{1, 0}) || e != api.OK {
		t.Error(o, e)
	}
	sum := add(num(2), num(1))
	if x, e := defs.Inline(op(api.TMul, name("a"), name("a")), l); !terms.Same(x, op(api.TMul, sum, sum)) || e != api.OK {
		t.Error(x, e)
	}
	l = []api.Def{def("c", name("d")), def("d", name("c"))}
	if o, e := defs.Order(l); len(o) != 0 || e != api.ErrCycle {
		t.Error(o, e)
	}
	if ring := defs.Ring(l); !slices.Equal(ring, []string{"c", "d"}) {
		t.Error(ring)
	}
}

func TestOrderAndRing(t *testing.T) {
	for _, x := range []struct {
		defs  string
		order []int // nil if there is a ring
		ring  string
	}{
		{"", []int{}, ""},
		{"a=", []int{0}, ""},
		{"c= b= a=", []int{0, 1, 2}, ""},
		{"a=b b=c c=x", []int{2, 1, 0}, ""},
		{"a=c b= c=", []int{1, 2, 0}, ""},
		{"a=e b=d c= d= e=", []int{2, 3, 1, 4, 0}, ""},
		{"e=d d=a+b c=b b= a=", []int{3, 2, 4, 1, 0}, ""},
		{"a=b+b+c b=c c=", []int{2, 1, 0}, ""},
		{"a=x b=y+next", []int{0, 1}, ""},
		{"a=a", nil, "a"},
		{"b=c a=b c=b", nil, "b c"},
		{"a=b b=c c=a", nil, "a b c"},
		{"c=b b=a a=c", nil, "a c b"},
		{"d=c c=d b=a a=b", nil, "a b"},
		{"a=b b=c c=a d=e e=d", nil, "d e"},
		{"a=b b=c c=a d=d", nil, "d"},
		{"a=c+b b=d c=d d=a", nil, "a b d"},
		{"a=c+b b=e c=d d=a e=a", nil, "a b e"},
		{"a=b+c+d b=e c=f d=a e=a f=a", nil, "a d"},
		{"a=b+c b=e c=d e=d d=a", nil, "a c d"},
		{"b=a+c c=b+a a=c+b", nil, "a b"},
		{"z=y y=z a=b b=c c=d d=a", nil, "y z"},
		{"x=a b=a a=b c=b", nil, "a b"},
		{"B=a a=B", nil, "B a"},
		{"aa=b b=aa a=ab ab=a", nil, "a ab"},
		// several definitions of one name
		{"a=b b= b=a", []int{1, 0, 2}, ""},
		{"a= a=a", []int{0, 1}, ""},
		{"a=a a=", nil, "a"},
		{"a=b b=c b=a c=", []int{3, 1, 0, 2}, ""},
		{"b=a a=b a=a", nil, "a b"},
		{"a=c a=b b=a c=a", nil, "a c"},
	} {
		l := list(x.defs)
		o, e := defs.Order(l)
		if (x.order == nil) != (e == api.ErrCycle) || x.order != nil && e != api.OK || !slices.Equal(o, x.order) {
			t.Errorf("Order of %q: %v, %d; want %v", x.defs, o, e, x.order)
		}
		if ring := defs.Ring(l); strings.Join(ring, " ") != x.ring {
			t.Errorf("Ring of %q: %v; want %v", x.defs, ring, x.ring)
		}
	}
}

func TestOnlyNamesOfTheStateCount(t *testing.T) {
	l := []api.Def{def("a", next("b")), def("b", op(api.TIf, next("a"), next("b"), num(1)))}
	if o, e := defs.Order(l); !slices.Equal(o, []int{0, 1}) || e != api.OK || len(defs.Ring(l)) != 0 {
		t.Error(o, e)
	}
	// Names counts what occurs in terms that are not valid, too.
	l = []api.Def{def("", add(api.Term{Op: 77, Kids: []api.Term{name("a")}}, num(1))), def("a", api.Term{Op: api.TName, Kids: []api.Term{name("a")}})}
	if o, e := defs.Order(l); len(o) != 0 || e != api.ErrCycle || !slices.Equal(defs.Ring(l), []string{"a"}) {
		t.Error(o, e, defs.Ring(l))
	}
}

func inlined(t *testing.T, x api.Term, l []api.Def, want api.Term, err api.Errno) {
	t.Helper()
	if got, e := defs.Inline(x, l); e != err || !terms.Same(got, want) {
		t.Errorf("Inline: %.200v, %d; want %.200v, %d", got, e, want, err)
	}
}

func TestInline(t *testing.T) {
	l := []api.Def{def("a", add(name("b"), name("x"))), def("b", op(api.TIf, name("c"), next("a"), num(3))), def("c", op(api.TLt, name("y"), num(0))), def("c", num(9)), def("d", name("e")), def("e", name("z")), def("i", add(name("j"), num(1))), def("j", name("i")), def("k", name("j"))}
	none := api.Term{}
	b := op(api.TIf, op(api.TLt, name("y"), num(0)), next("a"), num(3))
	inlined(t, num(5), nil, num(5), api.OK)
	inlined(t, name("x"), l, name("x"), api.OK)
	inlined(t, next("b"), l, next("b"), api.OK)
	inlined(t, name("b"), l, b, api.OK)
	inlined(t, name("a"), l, add(b, name("x")), api.OK)
	inlined(t, name("d"), l, name("z"), api.OK)
	inlined(t, op(api.TAnd, name("c"), op(api.TNot, name("c")), name("q")), l, op(api.TAnd, op(api.TLt, name("y"), num(0)), op(api.TNot, op(api.TLt, name("y"), num(0))), name("q")), api.OK)
	inlined(t, name("c"), l[3:], num(9), api.OK)
	for _, s := range []string{"i", "j", "k"} {
		inlined(t, name(s), l, none, api.ErrCycle)
		inlined(t, add(name("a"), add(num(1), name(s))), l, none, api.ErrCycle)
		inlined(t, add(next(s), num(1)), l, add(next(s), num(1)), api.OK)
		inlined(t, add(num(256), name(s)), l, none, api.ErrRange)
	}
	inlined(t, none, l, none, api.ErrKind)
	inlined(t, op(api.TNot), l, none, api.ErrForm)
	inlined(t, name(""), append(l, def("", num(1))), none, api.ErrName)
}

// chain returns x below many negations.
func chain(many int, x api.Term) api.Term {
	for range many {
		x = op(api.TNot, x)
	}
	return x
}

func TestWhatIsNotValidWhenItIsInlined(t *testing.T) {
	none := api.Term{}
	long := strings.Repeat("z", 25)
	for _, x := range []struct {
		t   api.Term
		err api.Errno
	}{{none, api.ErrKind}, {num(-256), api.ErrRange}, {name(long), api.ErrName}, {op(api.TNot), api.ErrForm}, {chain(64, num(1)), api.ErrDeep}, {op(api.TOr, slices.Repeat([]api.Term{num(1)}, 65)...), api.ErrForm}, {add(none, num(256)), api.ErrKind}, {add(num(256), none), api.ErrRange}, {api.Term{Op: api.TName, Name: "q", Kids: []api.Term{num(1)}}, api.ErrForm}} {
		l := []api.Def{def("a", x.t), def("b", num(1)), def("w", add(name("a"), num(999)))}
		inlined(t, add(num(1), name("a")), l, none, x.err)
		inlined(t, add(num(1), name("b")), l, add(num(1), num(1)), api.OK)
		inlined(t, name("w"), l, none, x.err)
	}
	inlined(t, name("a"), []api.Def{def("a", api.Term{Op: api.TName, Name: "b", Kids: []api.Term{none}}), def("b", num(1))}, num(1), api.OK)
	inlined(t, chain(62, name("a")), []api.Def{def("a", chain(1, num(1)))}, chain(63, num(1)), api.OK)
	inlined(t, chain(62, name("a")), []api.Def{def("a", chain(2, num(1)))}, none, api.ErrDeep)
	inlined(t, chain(63, name("a")), []api.Def{def("a", name("b")), def("b", name("c"))}, chain(63, name("c")), api.OK)
	inlined(t, add(chain(62, name("a")), num(256)), []api.Def{def("a", chain(2, num(1)))}, none, api.ErrRange)
}

// row returns a disjunction of that many names.
func row(many int, s string) api.Term {
	return op(api.TOr, slices.Repeat([]api.Term{name(s)}, many)...)
}

func TestTheSizeOfWhatIsInlined(t *testing.T) {
	none := api.Term{}
	l := []api.Def{def("row", row(64, "x")), def("all", row(63, "row")), def("last", num(256)), def("deep", chain(63, num(1))), def("void", none)}
	big := row(63, "row") // of 1 + 63 * 65 nodes, which is 4096
	want := op(api.TOr, slices.Repeat([]api.Term{row(64, "x")}, 63)...)
	inlined(t, big, l, want, api.OK)
	inlined(t, name("all"), l, want, api.OK)
	inlined(t, op(api.TNot, name("all")), l, none, api.ErrLong)
	// What is wrong about node 4097 comes before its number; what is wrong behind it is not seen.
	for s, err := range map[string]api.Errno{"x": api.ErrLong, "last": api.ErrRange, "void": api.ErrKind, "deep": api.ErrLong, "row": api.ErrLong} {
		inlined(t, op(api.TOr, append(slices.Repeat([]api.Term{name("row")}, 63), name(s))...), l, none, err)
	}
	inlined(t, op(api.TOr, append(slices.Repeat([]api.Term{name("row")}, 63), add(name("void"), name("last")))...), l, none, api.ErrLong)
	// And this is node 4096.
	nearly := op(api.TOr, append(slices.Repeat([]api.Term{name("x")}, 63), name("last"))...)
	inlined(t, op(api.TOr, append(slices.Repeat([]api.Term{name("row")}, 62), nearly)...), l, none, api.ErrRange)
	inlined(t, op(api.TOr, append(slices.Repeat([]api.Term{name("row")}, 63), row(2, "x"))...), l, none, api.ErrLong)
	inlined(t, add(name("all"), name("last")), l, none, api.ErrLong)
	inlined(t, add(name("last"), name("all")), l, none, api.ErrRange)
}

// doubling returns definitions of which each contains the one before twice.
func doubling(many int) []api.Def {
	l := []api.Def{def("k", name("x"))}
	for i := range many {
		l = append(l, def("k"+strconv.Itoa(i), add(name(l[i].Name), name(l[i].Name))))
	}
	return l
}

func TestWhatIsTooGreatToBeWritten(t *testing.T) {
	l := doubling(300)
	for i, d := range l {
		x, e := defs.Inline(name(d.Name), l)
		switch {
		case i < 12 && (e != api.OK || terms.Size(x) != 1<<(i+1)-1 || terms.Deep(x) != i+1):
			t.Errorf("%d: %d", i, e)
		case i >= 12 && i < 64 && e != api.ErrLong, i >= 64 && e != api.ErrDeep:
			t.Errorf("%d: %d", i, e)
		}
	}
	inlined(t, name("a"), []api.Def{def("a", chain(3000, name("x")))}, api.Term{}, api.ErrDeep)
}

func TestManyDefinitions(t *testing.T) {
	l := []api.Def{def("d", num(1))}
	for i := range 20000 {
		l = append(l, def("d"+strconv.Itoa(i), name(l[i].Name)))
	}
	inlined(t, add(name("d19999"), name("y")), l, add(num(1), name("y")), api.OK)
	o, e := defs.Order(l)
	if len(o) != len(l) || !slices.IsSorted(o) || e != api.OK {
		t.Error(len(o), e)
	}
	slices.Reverse(l)
	if o, e = defs.Order(l); len(o) != len(l) || o[0] != 20000 || o[20000] != 0 || e != api.OK {
		t.Error(len(o), e)
	}
}

func TestForm(t *testing.T) {
	l := []api.Def{def("a", name("x")), def("b", add(name("a"), next("y"))), def("i", name("i")), def("bad", num(256))}
	check := func(f api.Form, want api.Form, err api.Errno) {
		t.Helper()
		if g, e := defs.Form(f, l); e != err || !forms.Same(g, want) {
			t.Errorf("Form: %.200v, %d; want %.200v, %d", g, e, want, err)
		}
	}
	of := func(s string) api.Form { return formula(name(s)) }
	none := api.Form{}
	check(of("z"), of("z"), api.OK)
	check(of("a"), of("x"), api.OK)
	check(of("b"), formula(add(name("x"), next("y"))), api.OK) // which is not valid, and not checked again
	check(quantified(api.FEU, of("a"), quantified(api.FNot, quantified(api.FImp, of("q"), of("a")))), quantified(api.FEU, of("x"), quantified(api.FNot, quantified(api.FImp, of("q"), of("x")))), api.OK)
	check(none, none, api.ErrKind)
	check(formula(next("y")), none, api.ErrPlace)
	check(quantified(api.FAnd, of("i"), formula(num(256))), none, api.ErrRange)
	check(quantified(api.FAnd, of("i"), formula(add(name("bad"), num(1)))), none, api.ErrCycle)
	check(quantified(api.FAnd, of("a"), quantified(api.FEX, quantified(api.FOr, of("bad"), of("i")))), none, api.ErrRange)
	check(quantified(api.FAnd, of("a"), quantified(api.FOr, of("i"), of("bad"))), none, api.ErrCycle)
	check(quantified(api.FAU, of("a"), of("i")), none, api.ErrCycle)
}

func TestFlat(t *testing.T) {
	a := name("a")
	spec := func(s string, f api.Form) api.Spec { return api.Spec{Name: s, F: f} }
	m := api.Module{
		Vars: []api.Var{{Name: "x", Lo: 1, Hi: 3}, {Name: "b", Bool: true}}, Defs: []api.Def{def("a", name("x")), def("b", add(a, num(2)))},
		Init: []api.Term{a, num(1)}, Invar: []api.Term{name("b")}, Next: []api.Def{def("b", a), def("x", name("b")), def("a", next("a"))},
		Trans: []api.Term{next("a"), a}, Fair: []api.Term{name("q")}, Specs: []api.Spec{spec("a", formula(a)), spec("s", quantified(api.FEX, formula(name("b"))))},
	}
	n, p, e := defs.Flat(m)
	x := name("x")
	b := add(x, num(2))
	if p != (api.Place{}) || e != api.OK || !slices.Equal(n.Vars, m.Vars) || len(n.Defs) != 0 {
		t.Error(n, p, e)
	}
	for _, l := range [][2][]api.Term{{n.Init, {x, num(1)}}, {n.Invar, {b}}, {n.Trans, {next("a"), x}}, {n.Fair, {name("q")}}, {{n.Next[0].E, n.Next[1].E, n.Next[2].E}, {x, b, next("a")}}} {
		if !slices.EqualFunc(l[0], l[1], terms.Same) {
			t.Error(l)
		}
	}
	if len(n.Next) != 3 || n.Next[0].Name != "b" || n.Next[1].Name != "x" || n.Next[2].Name != "a" || len(n.Specs) != 2 || n.Specs[0].Name != "a" || n.Specs[1].Name != "s" || !forms.Same(n.Specs[0].F, formula(x)) || !forms.Same(n.Specs[1].F, quantified(api.FEX, formula(b))) {
		t.Error(n.Next, n.Specs)
	}
	n, p, e = defs.Flat(api.Module{Defs: m.Defs})
	if p != (api.Place{}) || e != api.OK || len(n.Vars)+len(n.Defs)+len(n.Init)+len(n.Invar)+len(n.Next)+len(n.Trans)+len(n.Fair)+len(n.Specs) != 0 {
		t.Error(n, p, e)
	}
}

func TestFlatRefuses(t *testing.T) {
	l := []api.Def{def("a", name("x")), def("i", name("j")), def("j", name("i")), def("bad", num(256))}
	good, cyclic, wrong := name("a"), name("i"), name("bad")
	full := func(kind, i int, t api.Term) api.Module {
		one := func(k int) (r []api.Term) {
			r = []api.Term{good, good, good}
			if k == kind {
				r[i] = t
			}
			return r
		}
		m := api.Module{Vars: []api.Var{{Name: "x"}}, Defs: l, Init: one(api.InInit), Invar: one(api.InInvar), Trans: one(api.InTrans), Fair: one(api.InFair)}
		for _, x := range one(api.InNext) {
			m.Next = append(m.Next, def("x", x))
		}
		for _, x := range one(api.InSpecs) {
			m.Specs = append(m.Specs, api.Spec{Name: "s", F: quantified(api.FOr, formula(good), formula(x))})
		}
		return m
	}
	check := func(m api.Module, place api.Place, err api.Errno) {
		t.Helper()
		n, p, e := defs.Flat(m)
		if p != place || e != err || (err != api.OK && len(n.Vars)+len(n.Defs)+len(n.Init)+len(n.Invar)+len(n.Next)+len(n.Trans)+len(n.Fair)+len(n.Specs) != 0) {
			t.Errorf("Flat: %v, %d; want %v, %d", p, e, place, err)
		}
	}
	check(full(0, 0, good), api.Place{}, api.OK)
	kinds := []int{api.InInit, api.InInvar, api.InNext, api.InTrans, api.InFair, api.InSpecs}
	for k, kind := range kinds {
		for i := range 3 {
			check(full(kind, i, cyclic), api.Place{Kind: kind, I: i}, api.ErrCycle)
			check(full(kind, i, wrong), api.Place{Kind: kind, I: i}, api.ErrRange)
			check(full(kind, i, api.Term{}), api.Place{Kind: kind, I: i}, api.ErrKind)
			m := full(kind, i, cyclic)
			for _, later := range kinds[k+1:] {
				n := full(later, 0, wrong)
				switch later {
				case api.InInvar:
					m.Invar = n.Invar
				case api.InNext:
					m.Next = n.Next
				case api.InTrans:
					m.Trans = n.Trans
				case api.InFair:
					m.Fair = n.Fair
				case api.InSpecs:
					m.Specs = n.Specs
				}
			}
			check(m, api.Place{Kind: kind, I: i}, api.ErrCycle)
		}
	}
}
