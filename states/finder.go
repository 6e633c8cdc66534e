package states

import (
	"iter"
	"slices"

	"voussoir/api"
	"voussoir/edge"
	"voussoir/enc"
	"voussoir/perm"
	"voussoir/rel"
	"voussoir/shelf"
)

// finder finds states by the values of variables. As the set is on a shelf, this makes no nodes of the manager.
type finder struct {
	enc.Layout
	all edge.Edge
	fix func(f edge.Edge, v int, yes bool) edge.Edge
}

// newFinder returns a finder of the states of a set that is true only at states.
func newFinder(r *rel.Rel, set int) (f finder, e api.Errno) {
	s := shelf.New()
	all, e := s.Take(r.Man(), set)
	if e != api.OK {
		return finder{}, e
	}
	return finder{r.Layout(), all, s.Fixer(perm.Inverse(r.Man().Order()))}, api.OK
}

// values returns an iterator over the values that variable i has in a set, in increasing order, each with what is left of the set there. It decides the high bits first, so that values that no state has are passed over together.
func (f finder) values(set edge.Edge, i int) iter.Seq2[int, edge.Edge] {
	bits := f.Now(i)
	return func(yield func(n int, left edge.Edge) bool) {
		var follow func(left edge.Edge, n, bit int) bool
		follow = func(left edge.Edge, n, bit int) bool {
			switch {
			case left == edge.Zero:
				return true
			case bit < 0:
				return yield(n, left)
			}
			return follow(f.fix(left, bits[bit], false), n, bit-1) && follow(f.fix(left, bits[bit], true), n+1<<bit, bit-1)
		}
		follow(set, f.Vars[i].Lo, len(bits)-1)
	}
}

// list returns the first most states.
func (f finder) list(most int) (l [][]int) {
	s := make([]int, len(f.Vars))
	var follow func(set edge.Edge, i int) bool
	follow = func(set edge.Edge, i int) bool {
		if i == len(s) {
			l = append(l, slices.Clone(s))
			return len(l) < most
		}
		for n, left := range f.values(set, i) {
			s[i] = n
			if !follow(left, i+1) {
				return false
			}
		}
		return true
	}
	if f.all != edge.Zero && most > 0 {
		follow(f.all, 0)
	}
	return l
}
