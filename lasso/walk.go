package lasso

import (
	"voussoir/api"
	"voussoir/blast"
	"voussoir/dd"
	"voussoir/frontier"
	"voussoir/image"
	"voussoir/ops"
	"voussoir/rel"
	"voussoir/sets"
)

// walk goes from state to state.
type walk struct {
	r *rel.Rel
	m *dd.Man
}

// lasso returns a lasso of a fair path from s on within p. It goes straight to the states that it is to go round in, so that it is in none of the others twice.
func (w walk) lasso(p int, s []int) (path [][]int, loop int, e api.Errno) {
	ahead, e := w.ahead(p, s)
	if e != api.OK {
		return nil, 0, e
	}
	defer w.m.Drop(ahead)
	part, e := w.circle(ahead, s)
	if e != api.OK {
		return nil, 0, e
	}
	defer w.m.Drop(part)
	path, e = w.path(ahead, s, part)
	if e != api.OK {
		return nil, 0, e
	}
	loop = len(path) - 1
	lap, e := w.lap(part, path[loop])
	if e != api.OK {
		return nil, 0, e
	}
	return append(path[:loop], lap...), loop, api.OK
}

// at returns a new handle of the set of this state alone.
func (w walk) at(s []int) (h int, e api.Errno) {
	return blast.State(w.m, w.r.Layout(), s, false)
}

// path returns a shortest path within p from s to a state of goal.
func (w walk) path(p int, s []int, goal int) (l [][]int, e api.Errno) {
	here, e := w.at(s)
	if e != api.OK {
		return nil, e
	}
	defer w.m.Drop(here)
	return frontier.Path(w.r, here, goal, p)
}

// lap returns the states that one comes by when one goes from s round in a circle, s first, and meets all fairness constraints.
func (w walk) lap(part int, s []int) (l [][]int, e api.Errno) {
	l, e = w.outward(part, s)
	if e != api.OK {
		return nil, e
	}
	home, e := w.at(s)
	if e != api.OK {
		return nil, e
	}
	defer w.m.Drop(home)
	steps, e := w.onward(part, l[len(l)-1], home)
	if e != api.OK {
		return nil, e
	}
	return append(l, steps[:len(steps)-1]...), api.OK
}

// outward returns the first states of a lap, up to the one at which the last fairness constraint is met.
func (w walk) outward(part int, s []int) (l [][]int, e api.Errno) {
	l = [][]int{s}
	left, e := w.unmet(w.r.Fair(), l)
	for e == api.OK && len(left) > 0 {
		var steps [][]int
		steps, e = w.onward(part, l[len(l)-1], left...)
		if e != api.OK {
			return nil, e
		}
		l = append(l, steps...)
		left, e = w.unmet(left, steps)
	}
	return l, e
}

// unmet returns those of the goals to which no state of l belongs.
func (w walk) unmet(goals []int, l [][]int) (left []int, e api.Errno) {
goals:
	for _, goal := range goals {
		for _, s := range l {
			switch met, e := sets.Has(w.r, goal, s); {
			case e != api.OK:
				return nil, e
			case met:
				continue goals
			}
		}
		left = append(left, goal)
	}
	return left, api.OK
}

// onward returns a shortest path of at least one transition within p from s to a state of one of the goals, but for s itself.
func (w walk) onward(p int, s []int, goals ...int) (l [][]int, e api.Errno) {
	here, e := w.at(s)
	if e != api.OK {
		return nil, e
	}
	defer w.m.Drop(here)
	later, e := image.Post(w.r, here)
	if e != api.OK {
		return nil, e
	}
	defer w.m.Drop(later)
	goal, e := ops.Or(w.m, goals...)
	if e != api.OK {
		return nil, e
	}
	defer w.m.Drop(goal)
	return frontier.Path(w.r, later, goal, p)
}
