// Package meaning finds the sets of states in which formulas hold.
package meaning

import (
	"maps"
	"slices"
	"strconv"

	"voussoir/api"
	"voussoir/blast"
	"voussoir/dd"
	"voussoir/fairs"
	"voussoir/frontier"
	"voussoir/image"
	"voussoir/ops"
	"voussoir/rel"
)

// Checker finds the sets of states in which formulas hold, each of them once. What its methods return are its own handles, or 0 if something has failed.
type Checker struct {
	r    *rel.Rel
	m    *dd.Man
	all  int            // the states that count, from which no transition is to lead to others
	sets map[recipe]int // those found so far
	e    api.Errno      // what has failed
}

// recipe tells how a set is made. What is made in the same way from the same sets is the same set, so that equal formulas have one recipe.
type recipe struct {
	op   int    // of a formula
	p, q int    // the sets of its operands
	term string // the spelling of a term
}

// New returns a checker that looks at the states of all only.
func New(r *rel.Rel, all int) *Checker {
	return &Checker{r: r, m: r.Man(), all: all, sets: map[recipe]int{}}
}

// Close drops the handles.
func (c *Checker) Close() {
	c.m.Drop(slices.Sorted(maps.Values(c.sets))...)
}

// Fault returns what has failed.
func (c *Checker) Fault() api.Errno {
	return c.e
}

// Take returns a new handle of a set, unless something has failed.
func (c *Checker) Take(set int) (h int, e api.Errno) {
	if c.e != api.OK {
		return 0, c.e
	}
	return c.m.Copy(set)
}

// once returns the set of a recipe, which is found in that way unless it is known.
func (c *Checker) once(how recipe, find func() (int, api.Errno)) int {
	if c.e != api.OK {
		return 0
	}
	h, known := c.sets[how]
	if known {
		return h
	}
	h, c.e = find()
	if c.e == api.OK {
		c.sets[how] = h
	}
	return h
}

// Formula returns the states in which f holds. The Kids have to be as many as those of a valid formula, and the terms Boolean, but both may be nested deeper than in a valid one, as those that Push returns may be.
func (c *Checker) Formula(f api.Form) int {
	if f.Op == api.FTerm {
		return c.term(f.E)
	}
	p := c.Formula(f.Kids[0])
	q := p
	if len(f.Kids) > 1 {
		q = c.Formula(f.Kids[1])
	}
	return c.operation(f.Op)(p, q)
}

// operation returns what makes the set of a formula from those of its operands; if it has one operand only, it doesn't look at q.
func (c *Checker) operation(op int) func(p, q int) int {
	switch op {
	case api.FNot:
		return func(p, q int) int { return c.not(p) }
	case api.FAnd:
		return func(p, q int) int { return c.And(p, q) }
	case api.FOr:
		return func(p, q int) int { return c.or(p, q) }
	case api.FImp:
		return func(p, q int) int { return c.or(c.not(p), q) }
	case api.FEX:
		return func(p, q int) int { return c.Next(p) }
	case api.FEF:
		return func(p, q int) int { return c.Until(c.all, p) }
	case api.FEG:
		return func(p, q int) int { return c.Always(p) }
	case api.FEU:
		return func(p, q int) int { return c.Until(p, q) }
	case api.FAX:
		return func(p, q int) int { return c.not(c.Next(c.not(p))) }
	case api.FAF:
		return func(p, q int) int { return c.not(c.Always(c.not(p))) }
	case api.FAG:
		return func(p, q int) int { return c.not(c.Until(c.all, c.not(p))) }
	}
	// A path along which p U q does not hold stays outside of q, for ever or up to a state that is outside of p, too.
	return func(p, q int) int { return c.not(c.or(c.Always(c.not(q)), c.Until(c.not(q), c.not(c.or(p, q))))) }
}

// term returns the states in which a Boolean term is true.
func (c *Checker) term(t api.Term) int {
	if t.Op == api.TNot { // what it negates may be as deep as terms can be
		return c.not(c.term(t.Kids[0]))
	}
	return c.once(recipe{op: api.FTerm, term: string(spelling(nil, t))}, func() (int, api.Errno) {
		truth, e := blast.Truth(c.m, c.r.Layout(), t)
		if e != api.OK {
			return 0, e
		}
		defer c.m.Drop(truth)
		return ops.And(c.m, truth, c.all)
	})
}

// spelling appends to a text what tells t from all other terms, and from all texts that go on after a term.
func spelling(text []byte, t api.Term) []byte {
	for _, n := range []int{t.Op, t.N, len(t.Kids)} {
		text = strconv.AppendInt(text, int64(n), 10)
		text = append(text, ' ')
	}
	text = strconv.AppendQuote(text, t.Name)
	for _, kid := range t.Kids {
		text = spelling(text, kid)
	}
	return text
}

// not returns the states outside of p.
func (c *Checker) not(p int) int {
	return c.once(recipe{op: api.FNot, p: p}, func() (int, api.Errno) { return ops.Diff(c.m, c.all, p) })
}

// And returns the states in both p and q.
func (c *Checker) And(p, q int) int {
	return c.once(recipe{op: api.FAnd, p: p, q: q}, func() (int, api.Errno) { return ops.And(c.m, p, q) })
}

// or returns the states in p or q.
func (c *Checker) or(p, q int) int {
	return c.once(recipe{op: api.FOr, p: p, q: q}, func() (int, api.Errno) { return ops.Or(c.m, p, q) })
}

// Always returns the states from which a fair path starts within p.
func (c *Checker) Always(p int) int {
	return c.once(recipe{op: api.FEG, p: p}, func() (int, api.Errno) { return fairs.Hull(c.r, p) })
}

// Fair returns the states of p from which a fair path starts.
func (c *Checker) Fair(p int) int {
	return c.And(p, c.Always(c.all))
}

// Next returns the states from which a fair path starts whose second state is in p.
func (c *Checker) Next(p int) int {
	p = c.Fair(p)
	return c.once(recipe{op: api.FEX, p: p}, func() (int, api.Errno) { return frontier.Among(c.r, c.all, image.Pre)(p) })
}

// Until returns the states from which a fair path starts that leads through p to a state of q.
func (c *Checker) Until(p, q int) int {
	q = c.Fair(q)
	return c.once(recipe{op: api.FEU, p: p, q: q}, func() (int, api.Errno) {
		return frontier.New(c.r, q, frontier.Among(c.r, p, image.Pre)).All()
	})
}
