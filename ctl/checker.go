package ctl

import (
	"maps"
	"slices"
	"strconv"

	"voussoir/api"
	"voussoir/blast"
	"voussoir/dd"
	"voussoir/fairs"
	"voussoir/frontier"
	"voussoir/image"
	"voussoir/ops"
	"voussoir/rel"
)

// checker finds the sets of states in which formulas hold. What its methods return are its own handles, or 0 if something has failed.
type checker struct {
	r    *rel.Rel
	m    *dd.Man
	all  int            // the states that count, from which no transition is to lead to others
	sets map[recipe]int // those found so far
	e    api.Errno      // what has failed
}

// recipe tells how a set is made. What is made in the same way from the same sets is the same set, so that equal formulas have one recipe.
type recipe struct {
	op   int    // of a formula
	p, q int    // the sets of its operands
	term string // the spelling of a term
}

func newChecker(r *rel.Rel, all int) *checker {
	return &checker{r: r, m: r.Man(), all: all, sets: map[recipe]int{}}
}

// close drops the handles.
func (c *checker) close() {
	c.m.Drop(slices.Sorted(maps.Values(c.sets))...)
}

// take returns a new handle of a set, unless something has failed.
func (c *checker) take(set int) (h int, e api.Errno) {
	if c.e != api.OK {
		return 0, c.e
	}
	return c.m.Copy(set)
}

// once returns the set of a recipe, which is found in that way unless it is known.
func (c *checker) once(how recipe, find func() (int, api.Errno)) int {
	if c.e != api.OK {
		return 0
	}
	h, known := c.sets[how]
	if known {
		return h
	}
	h, c.e = find()
	if c.e == api.OK {
		c.sets[how] = h
	}
	return h
}

// formula returns the states in which f holds.
func (c *checker) formula(f api.Form) int {
	if f.Op == api.FTerm {
		return c.term(f.E)
	}
	p := c.formula(f.Kids[0])
	q := p
	if len(f.Kids) > 1 {
		q = c.formula(f.Kids[1])
	}
	return c.operation(f.Op)(p, q)
}

// operation returns what makes the set of a formula from those of its operands; if it has one operand only, it doesn't look at q.
func (c *checker) operation(op int) func(p, q int) int {
	switch op {
	case api.FNot:
		return func(p, q int) int { return c.not(p) }
	case api.FAnd:
		return func(p, q int) int { return c.and(p, q) }
	case api.FOr:
		return func(p, q int) int { return c.or(p, q) }
	case api.FImp:
		return func(p, q int) int { return c.or(c.not(p), q) }
	case api.FEX:
		return func(p, q int) int { return c.next(p) }
	case api.FEF:
		return func(p, q int) int { return c.until(c.all, p) }
	case api.FEG:
		return func(p, q int) int { return c.always(p) }
	case api.FEU:
		return func(p, q int) int { return c.until(p, q) }
	case api.FAX:
		return func(p, q int) int { return c.not(c.next(c.not(p))) }
	case api.FAF:
		return func(p, q int) int { return c.not(c.always(c.not(p))) }
	case api.FAG:
		return func(p, q int) int { return c.not(c.until(c.all, c.not(p))) }
	}
	// A path along which p U q does not hold stays outside of q, for ever or up to a state that is outside of p, too.
	return func(p, q int) int { return c.not(c.or(c.always(c.not(q)), c.until(c.not(q), c.not(c.or(p, q))))) }
}

// term returns the states in which a Boolean term is true.
func (c *checker) term(t api.Term) int {
	return c.once(recipe{op: api.FTerm, term: string(spelling(nil, t))}, func() (int, api.Errno) {
		truth, e := blast.Truth(c.m, c.r.Layout(), t)
		if e != api.OK {
			return 0, e
		}
		defer c.m.Drop(truth)
		return ops.And(c.m, truth, c.all)
	})
}

// spelling appends to a text what tells t from all other terms, and from all texts that go on after a term.
func spelling(text []byte, t api.Term) []byte {
	for _, n := range []int{t.Op, t.N, len(t.Kids)} {
		text = strconv.AppendInt(text, int64(n), 10)
		text = append(text, ' ')
	}
	text = strconv.AppendQuote(text, t.Name)
	for _, kid := range t.Kids {
		text = spelling(text, kid)
	}
	return text
}

// not returns the states outside of p.
func (c *checker) not(p int) int {
	return c.once(recipe{op: api.FNot, p: p}, func() (int, api.Errno) { return ops.Diff(c.m, c.all, p) })
}

// and returns the states in both p and q.
func (c *checker) and(p, q int) int {
	return c.once(recipe{op: api.FAnd, p: p, q: q}, func() (int, api.Errno) { return ops.And(c.m, p, q) })
}

// or returns the states in p or q.
func (c *checker) or(p, q int) int {
	return c.once(recipe{op: api.FOr, p: p, q: q}, func() (int, api.Errno) { return ops.Or(c.m, p, q) })
}

// always returns the states from which a fair path starts within p.
func (c *checker) always(p int) int {
	return c.once(recipe{op: api.FEG, p: p}, func() (int, api.Errno) { return fairs.Hull(c.r, p) })
}

// fair returns the states of p from which a fair path starts.
func (c *checker) fair(p int) int {
	return c.and(p, c.always(c.all))
}

// next returns the states from which a fair path starts whose second state is in p.
func (c *checker) next(p int) int {
	p = c.fair(p)
	return c.once(recipe{op: api.FEX, p: p}, func() (int, api.Errno) { return frontier.Among(c.r, c.all, image.Pre)(p) })
}

// until returns the states from which a fair path starts that leads through p to a state of q.
func (c *checker) until(p, q int) int {
	q = c.fair(q)
	return c.once(recipe{op: api.FEU, p: p, q: q}, func() (int, api.Errno) {
		return frontier.New(c.r, q, frontier.Among(c.r, p, image.Pre)).All()
	})
}
