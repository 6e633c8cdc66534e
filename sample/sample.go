// Package sample makes variables, terms, formulas and models for tests.
package sample

import (
	"slices"
	"strconv"

	"voussoir/api"
	"voussoir/terms"
)

// Random is where a test gets its numbers from.
type Random interface {
	Intn(n int) int
}

// Vars returns at most so many variables, each with at most span values. Together they need at most so many bits.
func Vars(r Random, most, span, bits int) (vars []api.Var) {
	for i := range r.Intn(most + 1) {
		v := api.Var{Name: "v" + strconv.Itoa(i), Bool: true}
		need := 1
		if r.Intn(3) > 0 {
			lo, many := r.Intn(7)-4, 1+r.Intn(span)
			v = api.Var{Name: v.Name, Lo: lo, Hi: lo + many - 1}
			for need = 0; 1<<need < many; {
				need++
			}
		}
		if bits -= need; bits < 0 {
			break
		}
		vars = append(vars, v)
	}
	return vars
}

// Term returns a valid term, Boolean or not, of at most that depth over the variables now, of which those of later may occur with next. There are no variables of the same name.
func Term(r Random, now, later []api.Var, truth bool, depth int) api.Term {
	for {
		t := grower{r, now, later}.term(truth, depth)
		if _, e := terms.Type(now, t, true); e == api.OK { // a range may be too wide
			return t
		}
	}
}

// grower makes terms.
type grower struct {
	r          Random
	now, later []api.Var
}

// term returns a term of at most that depth, the ranges of whose numbers may be too wide.
func (g grower) term(truth bool, depth int) api.Term {
	if depth <= 1 {
		return g.leaf(truth)
	}
	kid := func(truth bool) api.Term { return g.term(truth, depth-1-g.r.Intn(2)) }
	op, kids := api.TIf, []api.Term{kid(true), kid(truth), kid(truth)}
	k := g.r.Intn(10)
	switch {
	case k == 0:
	case k < 3 && !truth:
		op, kids = api.TMod, []api.Term{kids[1], {Op: api.TNum, N: 1 + g.r.Intn(5)}}
	case !truth:
		op, kids = api.TAdd+g.r.Intn(3), kids[1:]
	case k == 1:
		op, kids = api.TNot, kids[:1]
	case k < 5:
		op, kids = api.TAnd+g.r.Intn(2), kids[:1+g.r.Intn(3)]
	case k < 6:
		op, kids = api.TImp+g.r.Intn(4), kids[:2]
	default:
		op, kids = api.TEq+g.r.Intn(4), []api.Term{kid(false), kid(false)}
	}
	return api.Term{Op: op, Kids: kids}
}

// leaf returns a variable, or a constant.
func (g grower) leaf(truth bool) api.Term {
	other := func(v api.Var) bool { return v.Bool != truth }
	now := slices.DeleteFunc(slices.Clone(g.now), other)
	later := slices.DeleteFunc(slices.Clone(g.later), other)
	k := g.r.Intn(1 + 2*len(now) + 2*len(later))
	switch {
	case k == 0 && truth:
		return api.Term{Op: api.TBool, N: g.r.Intn(2)}
	case k == 0:
		return api.Term{Op: api.TNum, N: g.r.Intn(8) - 3}
	case k <= 2*len(now):
		return api.Term{Op: api.TName, Name: now[(k-1)/2].Name}
	}
	return api.Term{Op: api.TNext, Name: later[(k-1)/2-len(now)].Name}
}

// Module returns a valid model without specs that has at most 64 states. Each of its states is one of those of Vars.
func Module(r Random) (m api.Module) {
	m.Vars = Vars(r, 3, 5, 6)
	known := slices.Clone(m.Vars) // the variables, and then the definitions as if they were variables
	for i := range r.Intn(3) {
		d := api.Def{Name: "d" + strconv.Itoa(i), E: Term(r, known, nil, r.Intn(2) == 0, 3)}
		y, _ := terms.Type(known, d.E, false)
		m.Defs = append(m.Defs, d)
		known = append(known, api.Var{Name: d.Name, Bool: y.Bool, Lo: y.Lo, Hi: y.Hi})
	}
	some := func(most int, later []api.Var) (l []api.Term) {
		for range r.Intn(most + 1) {
			l = append(l, Term(r, known, later, true, 3))
		}
		return l
	}
	m.Init, m.Invar, m.Fair = some(2, nil), some(1, nil), some(2, nil)
	if r.Intn(2) == 0 {
		m.Trans = some(2, m.Vars)
	}
	for _, v := range m.Vars {
		if r.Intn(3) > 0 {
			m.Next = append(m.Next, api.Def{Name: v.Name, E: successor(r, v, known)})
		}
	}
	return m
}

// successor returns a term for the next value of v, which is in its range more often than not.
func successor(r Random, v api.Var, known []api.Var) api.Term {
	t := Term(r, known, nil, v.Bool, 3)
	if v.Bool || r.Intn(3) == 0 {
		return t
	}
	same := api.Term{Op: api.TName, Name: v.Name}
	value := api.Term{Op: api.TNum, N: v.Lo + r.Intn(v.Hi-v.Lo+1)}
	step := api.Term{Op: api.TAdd, Kids: []api.Term{same, {Op: api.TNum, N: 1}}}
	below := api.Term{Op: api.TLt, Kids: []api.Term{same, {Op: api.TNum, N: v.Hi}}}
	if r.Intn(2) == 0 {
		below, step = Term(r, known, nil, true, 2), same
	}
	return api.Term{Op: api.TIf, Kids: []api.Term{below, step, value}}
}

// Form returns a valid formula of at most that depth over the variables.
func Form(r Random, vars []api.Var, depth int) api.Form {
	op := api.FTerm + r.Intn(api.FAU-api.FTerm+1)
	if depth <= 1 || op == api.FTerm {
		return api.Form{Op: api.FTerm, E: Term(r, vars, nil, true, 3)}
	}
	f := api.Form{Op: op, Kids: []api.Form{Form(r, vars, depth-1)}}
	switch op {
	case api.FAnd, api.FOr, api.FImp, api.FEU, api.FAU:
		f.Kids = append(f.Kids, Form(r, vars, depth-1))
	}
	return f
}
