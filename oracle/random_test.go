package oracle_test

import (
	"math/rand"
	"slices"
	"strconv"
	"strings"
	"testing"

	"voussoir/api"
	"voussoir/graph"
	"voussoir/oracle"
	"voussoir/sample"
	"voussoir/terms"
)

// story is what counts of a fair path: its second state, and the states on it in the order in which it first comes to them.
type story struct {
	second int
	first  [3]int // -1 where there are no more
}

// longest is the number of states of a lasso from which on there are no new stories in a graph of three states with two constraints.
const longest = 9

// stories returns those of all fair paths from a state of a graph of at most three states.
func stories(g graph.Graph, start int) map[story]bool {
	found := map[story]bool{}
	var path []int
	var extend func(i int)
	extend = func(i int) {
		path = append(path, i)
		for _, k := range g.Next[i] {
			for loop, s := range path {
				if s == k && fair(g, path[loop:]) {
					found[told(append(slices.Clone(path), k))] = true
				}
			}
			if len(path) < longest {
				extend(k)
			}
		}
		path = path[:len(path)-1]
	}
	extend(start)
	return found
}

// fair reports whether for each constraint one of the states satisfies it.
func fair(g graph.Graph, states []int) bool {
	for k := range g.Fair[0] {
		if !slices.ContainsFunc(states, func(i int) bool { return g.Fair[i][k] }) {
			return false
		}
	}
	return true
}

// told returns the story of a path of at least two states.
func told(path []int) story {
	s := story{path[1], [3]int{-1, -1, -1}}
	many := 0
	for _, i := range path {
		if !slices.Contains(s.first[:], i) {
			s.first[many] = i
			many++
		}
	}
	return s
}

// holds reports whether p U q is true of the path.
func (s story) holds(p, q int) bool {
	for _, i := range s.first {
		switch {
		case i < 0:
			return false
		case q>>i&1 == 1:
			return true
		case p>>i&1 == 0:
			return false
		}
	}
	return false
}

// stays reports whether all states of the path are in p.
func (s story) stays(p int) bool {
	return !s.holds(7, 7&^p)
}

// someGraph returns a model of three states with any transitions and at most two constraints.
func someGraph(r *rand.Rand) string {
	is := func(word string, set int) string {
		parts := []string{"false"}
		for i := range 3 {
			if set>>i&1 == 1 {
				parts = append(parts, word+" = "+strconv.Itoa(i))
			}
		}
		return "(" + strings.Join(parts, " | ") + ")"
	}
	s := "var x : 0 .. 2;"
	for i := range 3 {
		s += " trans x = " + strconv.Itoa(i) + " -> " + is("next(x)", r.Intn(8)) + ";"
	}
	for range r.Intn(3) {
		s += " fair " + is("x", 1+r.Intn(7)) + ";"
	}
	return s
}

// in returns a set of three states whose bits are given.
func in(code int) []bool {
	return []bool{code&1 == 1, code&2 == 2, code&4 == 4}
}

// Each operator says of a state what it is to say of the fair paths from it.
func TestPaths(t *testing.T) {
	r := rand.New(rand.NewSource(41))
	name := api.Term{Op: api.TName, Name: "x"}
	term := func(set int) api.Form {
		or := api.Term{Op: api.TOr, Kids: []api.Term{{Op: api.TBool}}}
		for i := range 3 {
			if set>>i&1 == 1 {
				or.Kids = append(or.Kids, api.Term{Op: api.TEq, Kids: []api.Term{name, {Op: api.TNum, N: i}}})
			}
		}
		return api.Form{Op: api.FTerm, E: or}
	}
	for range 150 {
		text := someGraph(r)
		m := sample.Model(t, text)
		g := of(t, m)
		var all [3]map[story]bool
		for i := range all {
			all[i] = stories(g, i)
		}
		is := func(about string, got []bool, e api.Errno, every bool, true func(s story) bool) {
			t.Helper()
			for i := range 3 {
				want := every
				for s := range all[i] {
					if true(s) != every {
						want = !every
						break
					}
				}
				if len(got) != 3 || got[i] != want || e != api.OK {
					t.Fatalf("%s: %s: %v, %d at %d; want %v", text, about, got, e, i, want)
				}
			}
		}
		sat := func(op int, f ...api.Form) ([]bool, api.Errno) { return oracle.Sat(g, m, api.Form{Op: op, Kids: f}) }
		for p := range 8 {
			next := func(s story) bool { return p>>s.second&1 == 1 }
			some := func(s story) bool { return s.holds(7, p) }
			stays := func(s story) bool { return s.stays(p) }
			is("EX", oracle.EX(g, in(p)), api.OK, false, next)
			is("EG", oracle.EG(g, in(p)), api.OK, false, stays)
			is("Fair", oracle.Fair(g, in(p)), api.OK, false, stays)
			for op, true := range map[int]func(s story) bool{api.FEX: next, api.FEF: some, api.FEG: stays, api.FAX: next, api.FAF: some, api.FAG: stays} {
				l, e := sat(op, term(p))
				is("operator "+strconv.Itoa(op), l, e, op >= api.FAX, true)
			}
			for q := range 8 {
				until := func(s story) bool { return s.holds(p, q) }
				is("EU", oracle.EU(g, in(p), in(q)), api.OK, false, until)
				l, e := sat(api.FEU, term(p), term(q))
				is("EU", l, e, false, until)
				l, e = sat(api.FAU, term(p), term(q))
				is("AU", l, e, true, until)
			}
		}
	}
}

// sets finds out by fixpoints where formulas hold.
type sets struct {
	g    graph.Graph
	vars []api.Var
	fair []bool
}

func newSets(g graph.Graph, vars []api.Var) sets {
	s := sets{g: g, vars: vars}
	s.fair = s.forever(s.each(func(i int) bool { return true }))
	return s
}

// each returns what holds reports for each state.
func (s sets) each(holds func(i int) bool) []bool {
	l := make([]bool, len(s.g.States))
	for i := range l {
		l[i] = holds(i)
	}
	return l
}

// before reports for each state whether it has a successor in p.
func (s sets) before(p []bool) []bool {
	return s.each(func(i int) bool {
		return slices.ContainsFunc(s.g.Next[i], func(k int) bool { return p[k] })
	})
}

// until reports for each state whether a path through p leads to q, fair or not.
func (s sets) until(p, q []bool) []bool {
	for {
		before := s.before(q)
		more := s.each(func(i int) bool { return q[i] || p[i] && before[i] })
		if slices.Equal(more, q) {
			return q
		}
		q = more
	}
}

// forever reports for each state whether a fair path through p starts there: one that can always go on to each constraint.
func (s sets) forever(p []bool) []bool {
	for {
		less := s.before(p)
		if len(s.g.Fair) > 0 {
			for k := range s.g.Fair[0] {
				met := s.before(s.until(p, s.each(func(i int) bool { return p[i] && s.g.Fair[i][k] })))
				less = s.each(func(i int) bool { return less[i] && met[i] })
			}
		}
		less = s.each(func(i int) bool { return p[i] && less[i] })
		if slices.Equal(less, p) {
			return p
		}
		p = less
	}
}

// sat reports for each state whether f holds there.
func (s sets) sat(f api.Form) []bool {
	if f.Op == api.FTerm {
		return s.each(func(i int) bool {
			v, _ := terms.Eval(s.vars, f.E, s.g.States[i], nil)
			return v == 1
		})
	}
	var kids [][]bool
	for _, kid := range f.Kids {
		kids = append(kids, s.sat(kid))
	}
	p, q := kids[0], kids[len(kids)-1]
	not := func(l []bool) []bool { return s.each(func(i int) bool { return !l[i] }) }
	fair := func(l []bool) []bool { return s.each(func(i int) bool { return l[i] && s.fair[i] }) }
	switch f.Op {
	case api.FNot:
		return not(p)
	case api.FAnd:
		return s.each(func(i int) bool { return p[i] && q[i] })
	case api.FOr:
		return s.each(func(i int) bool { return p[i] || q[i] })
	case api.FImp:
		return s.each(func(i int) bool { return !p[i] || q[i] })
	case api.FEX:
		return s.before(fair(p))
	case api.FAX:
		return not(s.before(fair(not(p))))
	case api.FEF:
		return s.until(not(make([]bool, len(p))), fair(p))
	case api.FAG:
		return not(s.until(not(make([]bool, len(p))), fair(not(p))))
	case api.FEG:
		return s.forever(p)
	case api.FAF:
		return not(s.forever(not(p)))
	case api.FEU:
		return s.until(p, fair(q))
	}
	neither := s.each(func(i int) bool { return !p[i] && !q[i] && s.fair[i] })
	never, broken := s.forever(not(q)), s.until(not(q), neither)
	return s.each(func(i int) bool { return !never[i] && !broken[i] })
}

func TestRandomModels(t *testing.T) {
	r := rand.New(rand.NewSource(42))
	mixed := 0
	for range 4000 {
		m := sample.Module(r)
		g := of(t, m)
		s := newSets(g, m.Vars)
		for range 4 {
			f := sample.Form(r, m.Vars, 1+r.Intn(5))
			l, e := oracle.Sat(g, m, f)
			if want := s.sat(f); e != api.OK || !slices.Equal(l, want) {
				t.Fatalf("%v: %v: %v, %d; want %v", m, f, l, e, want)
			}
			if slices.Contains(l, true) && slices.Contains(l, false) {
				mixed++
			}
			dual(t, r, g)
		}
	}
	if mixed < 1000 {
		t.Error(mixed)
	}
}

// dual checks the derived properties of sets.
func dual(t *testing.T, r *rand.Rand, g graph.Graph) {
	t.Helper()
	p, q := make([]bool, len(g.States)), make([]bool, len(g.States))
	for i := range p {
		p[i], q[i] = r.Intn(3) > 0, r.Intn(4) == 0
	}
	all := slices.Repeat([]bool{true}, len(p))
	starts := oracle.Fair(g, all)
	until, always := oracle.EU(g, p, q), oracle.EG(g, p)
	on, on2 := oracle.EX(g, until), oracle.EX(g, always)
	for i := range p {
		if until[i] != (q[i] && starts[i] || p[i] && on[i]) || always[i] != (p[i] && on2[i]) {
			t.Fatal(g, p, q, until, always)
		}
	}
	if !slices.Equal(oracle.EX(g, all), starts) || !slices.Equal(oracle.EU(g, all, all), starts) {
		t.Fatal(g, starts)
	}
}
