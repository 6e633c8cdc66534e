// Package endless finds the states from which paths without end start, or, the other way round, to which such paths lead.
package endless

import (
	"voussoir/api"
	"voussoir/dd"
	"voussoir/fix"
	"voussoir/frontier"
	"voussoir/ops"
	"voussoir/rel"
)

// The functions below are about paths that start from a state if they are given image.Pre, and about paths that lead to it if they are given image.Post.

// Plain returns a new handle of the states of p that have such a path within p.
func Plain(r *rel.Rel, p int, way frontier.Way) (h int, e api.Errno) {
	return greatest(r.Man(), p, func(set int) (int, api.Errno) { return frontier.Among(r, set, way)(set) })
}

// Fair is Plain for fair paths only.
func Fair(r *rel.Rel, p int, way frontier.Way) (h int, e api.Errno) {
	if len(r.Fair()) == 0 {
		return Plain(r, p, way)
	}
	return greatest(r.Man(), p, func(set int) (int, api.Errno) { return round(r, set, way) })
}

// round returns a new handle of states of set, that of all if each has paths within set by which every fairness constraint is met.
func round(r *rel.Rel, set int, way frontier.Way) (h int, e api.Errno) {
	m, fair := r.Man(), r.Fair()
	h, e = m.Copy(set)
	for i := range len(fair) {
		if e != api.OK {
			return 0, e
		}
		rest := h
		h, e = meeting(r, rest, fair[i], way)
		m.Drop(rest)
	}
	return h, e
}

// meeting returns a new handle of the states of set that have a path of at least one transition within set, at the other end of which there is a state of goal.
func meeting(r *rel.Rel, set, goal int, way frontier.Way) (h int, e api.Errno) {
	m := r.Man()
	ends, e := ops.And(m, set, goal)
	if e != api.OK {
		return 0, e
	}
	defer m.Drop(ends)
	met, e := frontier.New(r, ends, frontier.Among(r, set, way)).All()
	if e != api.OK {
		return 0, e
	}
	defer m.Drop(met)
	return frontier.Among(r, set, way)(met)
}

// greatest is fix's, but without a limit of steps: where that gives up, this goes on from the last set.
func greatest(m *dd.Man, from int, f func(set int) (int, api.Errno)) (h int, e api.Errno) {
	last, e := m.Copy(from)
	if e != api.OK {
		return 0, e
	}
	defer func() { m.Drop(last) }()
	noted := func(set int) (int, api.Errno) {
		next, e := f(set)
		if e != api.OK {
			return 0, e
		}
		m.Drop(last)
		last, e = m.Copy(next)
		return next, e
	}
	for e = api.ErrFuel; e == api.ErrFuel; {
		h, _, e = fix.Greatest(m, last, noted)
	}
	return h, e
}
