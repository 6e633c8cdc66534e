package lasso

import (
	"voussoir/api"
	"voussoir/endless"
	"voussoir/fairs"
	"voussoir/frontier"
	"voussoir/image"
	"voussoir/ops"
	"voussoir/sets"
)

// ahead returns a new handle of all the states of fair paths from s on within a part of p, or ErrPath if no fair path stays within p. That part consists of what is near s, as it could take very long to look at states far away.
func (w walk) ahead(p int, s []int) (h int, e api.Errno) {
	here, e := w.at(s)
	if e != api.OK {
		return 0, e
	}
	defer w.m.Drop(here)
	first, e := ops.And(w.m, here, p)
	if e != api.OK {
		return 0, e
	}
	defer w.m.Drop(first)
	search := frontier.New(w.r, first, frontier.Among(w.r, p, image.Post))
	defer search.Close()
	for steps := 1; ; steps *= 2 {
		more, e := further(search, steps)
		if e != api.OK {
			return 0, e
		}
		near, e := search.Met()
		if e != api.OK {
			return 0, e
		}
		h, e = w.hull(near, s)
		w.m.Drop(near)
		if e != api.ErrPath || !more {
			return h, e
		}
	}
}

// further goes on with a search by so many steps, and reports whether there may be more.
func further(search *frontier.Search, steps int) (more bool, e api.Errno) {
	more = true
	for k := 0; k < steps && more && e == api.OK; k++ {
		more, e = search.Next()
	}
	return more, e
}

// hull returns a new handle of Hull of p, or ErrPath if s is not in it.
func (w walk) hull(p int, s []int) (h int, e api.Errno) {
	h, e = fairs.Hull(w.r, p)
	if e != api.OK {
		return 0, e
	}
	yes, e := sets.Has(w.r, h, s)
	if e == api.OK && !yes {
		e = api.ErrPath
	}
	if e != api.OK {
		w.m.Drop(h)
		return 0, e
	}
	return h, api.OK
}

// circle returns a new handle of a strongly connected component of ahead in which one can go round fairly.
func (w walk) circle(ahead int, s []int) (part int, e api.Errno) {
	ends, e := endless.Fair(w.r, ahead, image.Post) // the states of such components, and those that one comes to from there
	if e != api.OK {
		return 0, e
	}
	defer w.m.Drop(ends)
	path, e := w.path(ahead, s, ends)
	if e != api.OK {
		return 0, e
	}
	s = path[len(path)-1]
	for part == 0 && e == api.OK {
		part, s, e = w.look(ends, s)
	}
	return part, e
}

// look returns a new handle of the component of s if one can go round in it fairly. Else it returns 0 and a state to look at next. That is one of the farthest from which one comes to s, so that there are soon none behind those looked at but in such components.
func (w walk) look(ends int, s []int) (part int, next []int, e api.Errno) {
	behind, e := w.met(ends, s, image.Pre)
	if e != api.OK {
		return 0, nil, e
	}
	defer w.m.Drop(behind)
	same, e := w.met(behind, s, image.Post)
	if e != api.OK {
		return 0, nil, e
	}
	defer w.m.Drop(same)
	part, e = w.hull(same, s) // all of it
	if e != api.ErrPath {
		return part, nil, e
	}
	next, e = w.farthest(behind, same)
	return 0, next, e
}

// met returns a new handle of the states of p that one comes to from s on within p that way, s among them.
func (w walk) met(p int, s []int, way frontier.Way) (h int, e api.Errno) {
	here, e := w.at(s)
	if e != api.OK {
		return 0, e
	}
	defer w.m.Drop(here)
	return frontier.New(w.r, here, frontier.Among(w.r, p, way)).All()
}

// farthest returns a state of p from which it takes most steps within p to a state of goal.
func (w walk) farthest(p, goal int) (s []int, e api.Errno) {
	search := frontier.New(w.r, goal, frontier.Among(w.r, p, image.Pre))
	defer search.Close()
	l, _, e := search.List(api.MaxSteps) // where it takes more steps, a nearer state will do
	if e != api.OK {
		return nil, e
	}
	defer w.m.Drop(l...)
	return sets.Least(w.r, l[len(l)-1])
}
