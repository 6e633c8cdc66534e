package trees

import (
	"voussoir/api"
	"voussoir/forms"
	"voussoir/meaning"
	"voussoir/rel"
	"voussoir/sets"
)

// builder builds witness trees. It owns its handles.
type builder struct {
	r       *rel.Rel
	meaning *meaning.Checker
	slopes  []*slope
	rounds  map[int]trails // lassos, by the sets within which they stay
}

// goal is a formula that Push returns, and that trees are to explain.
type goal struct {
	f     api.Form
	set   int                 // the states in which it holds
	kids  []*goal             // of its operands or, if it is the negation of an FAU, of the negations of that one's
	slope *slope              // down to the states in which the first part of a path may end
	trees map[string]api.Tree // those built so far, by their states
}

func newBuilder(r *rel.Rel) *builder {
	return &builder{r: r, meaning: meaning.New(r, r.Valid()), rounds: map[int]trails{}}
}

// close drops the handles.
func (b *builder) close() {
	for _, x := range b.slopes {
		x.close()
	}
	b.meaning.Close()
}

// whole returns a tree for f in a state, or ErrTree if it does not hold there.
func (b *builder) whole(f api.Form, s []int) (t api.Tree, e api.Errno) {
	g := b.goal(f)
	if e := b.meaning.Fault(); e != api.OK {
		return api.Tree{}, e
	}
	yes, e := sets.Has(b.r, g.set, s)
	switch {
	case e != api.OK:
		return api.Tree{}, e
	case !yes:
		return api.Tree{}, api.ErrTree
	}
	return b.explain(g, s)
}

// goal returns the goal of a formula, with those of its operands as far as trees explain these, too. It is of no use if a set could not be found.
func (b *builder) goal(f api.Form) *goal {
	g := &goal{f: f, set: b.meaning.Formula(f), trees: map[string]api.Tree{}}
	for _, kid := range operands(f) {
		g.kids = append(g.kids, b.goal(kid))
	}
	if len(g.kids) > 0 {
		b.aim(g)
	}
	return g
}

// operands returns the formulas that the Kids of trees for f explain: none if f is claimed without a proof. A negation that can't be formed is left out, together with the other one.
func operands(f api.Form) (l []api.Form) {
	switch f.Op {
	case api.FAX, api.FAF, api.FAG, api.FAU:
		return nil
	case api.FNot:
		if f.Kids[0].Op == api.FEU {
			return nil
		}
		for _, kid := range f.Kids[0].Kids {
			if forms.Check(kid) != api.OK {
				return nil
			}
			l = append(l, forms.Push(kid, true))
		}
		return l
	}
	return f.Kids
}

// aim gives a goal its slope, if it is explained by a path whose first part comes to an end.
func (b *builder) aim(g *goal) {
	last, through := g.kids[len(g.kids)-1].set, b.r.Valid()
	switch g.f.Op {
	case api.FEU:
		through = g.kids[0].set
	case api.FNot:
		through, last = last, b.meaning.And(g.kids[0].set, last)
	case api.FEX, api.FEF:
	default:
		return
	}
	g.slope = newSlope(b.r, through, b.meaning.Fair(last))
	b.slopes = append(b.slopes, g.slope)
}

// explain returns a tree for a goal in a state in which it holds.
func (b *builder) explain(g *goal, s []int) (t api.Tree, e api.Errno) {
	t, known := g.trees[key(s)]
	if known {
		return t, api.OK
	}
	t = api.Tree{State: s, F: g.f}
	if e := b.method(g.f)(g, &t); e != api.OK {
		return api.Tree{}, e
	}
	g.trees[key(s)] = t
	return t, api.OK
}

// grow gives t so many Kids; task returns what each one is to explain, and in which state.
func (b *builder) grow(t *api.Tree, many int, task func(i int) (g *goal, s []int)) api.Errno {
	for i := range many {
		g, s := task(i)
		kid, e := b.explain(g, s)
		if e != api.OK {
			return e
		}
		t.Kids = append(t.Kids, kid)
	}
	return api.OK
}
