// Package frontier goes through the frontiers of a breadth-first search among states, and along a path from one frontier to the next.
package frontier

import (
	"slices"

	"voussoir/api"
	"voussoir/blast"
	"voussoir/dd"
	"voussoir/image"
	"voussoir/ops"
	"voussoir/rel"
	"voussoir/sets"
)

// Way leads from a set to a new handle of the states that are one transition away.
type Way = func(r *rel.Rel, set int) (h int, e api.Errno)

// step makes a new handle of the states that are next to those of a set.
type step = func(set int) (h int, e api.Errno)

// Among returns a step that leads on a way to the states of p only.
func Among(r *rel.Rel, p int, on Way) func(set int) (h int, e api.Errno) {
	m := r.Man()
	return func(set int) (int, api.Errno) {
		all, e := on(r, set)
		if e != api.OK {
			return 0, e
		}
		defer m.Drop(all)
		return ops.And(m, all, p)
	}
}

// Search is a breadth-first search. It owns its handles.
type Search struct {
	m         *dd.Man
	coming    step  // what the next frontier is found by
	further   step  // what all frontiers after that are found by
	last, met int   // the last frontier, and all frontiers together
	kept      []int // frontiers that are to be handed out
}

// New returns a search whose first frontier is to consist of the states of a set, and each other one of the states next to those of the frontier before that are in none so far.
func New(r *rel.Rel, from int, next func(set int) (h int, e api.Errno)) *Search {
	first := func(int) (int, api.Errno) { return ops.And(r.Man(), from, r.Valid()) }
	return &Search{m: r.Man(), coming: first, further: next}
}

// Next goes on to the next frontier and reports whether that contains a state.
func (s *Search) Next() (more bool, e api.Errno) {
	found, e := s.coming(s.last)
	if e != api.OK {
		return false, e
	}
	defer s.m.Drop(found)
	s.coming = s.further
	fresh, e := ops.Diff(s.m, found, s.met)
	if e != api.OK {
		return false, e
	}
	s.m.Drop(s.last)
	s.last = fresh
	met, e := ops.Or(s.m, s.met, fresh)
	if e != api.OK {
		return false, e
	}
	s.m.Drop(s.met)
	s.met = met
	empty, e := s.m.Same(fresh, s.m.Const(false))
	return e == api.OK && !empty, e
}

// Last returns the last frontier, to be used until the next one is there.
func (s *Search) Last() int {
	return s.last
}

// Met returns a new handle of all frontiers so far together.
func (s *Search) Met() (h int, e api.Errno) {
	return s.m.Copy(s.met)
}

// All goes on until there is nothing more, closes the search, and returns a new handle of all frontiers together.
func (s *Search) All() (h int, e api.Errno) {
	defer s.Close()
	for more := true; more; {
		if more, e = s.Next(); e != api.OK {
			return 0, e
		}
	}
	return s.Met()
}

// Keep puts the last frontier among those that Take hands out.
func (s *Search) Keep() api.Errno {
	h, e := s.m.Copy(s.last)
	if e == api.OK {
		s.kept = append(s.kept, h)
	}
	return e
}

// Take hands out the frontiers that were kept.
func (s *Search) Take() (l []int) {
	l, s.kept = s.kept, nil
	return l
}

// List hands out the frontiers that were kept and those that follow, as far as they contain states, and at most so many in all. It reports whether none is left out.
func (s *Search) List(most int) (l []int, whole bool, e api.Errno) {
	for {
		more, e := s.Next()
		switch {
		case e != api.OK:
			return nil, false, e
		case !more || len(s.kept) >= most:
			return s.Take(), !more, api.OK
		}
		if e := s.Keep(); e != api.OK {
			return nil, false, e
		}
	}
}

// Close drops the handles that were not handed out.
func (s *Search) Close() {
	s.m.Drop(s.kept...)
	s.m.Drop(s.last, s.met)
}

// Path returns the least of the shortest sequences of states of p that begin in from, end in to, and go on by transitions.
func Path(r *rel.Rel, from, to, p int) (l [][]int, e api.Errno) {
	m := r.Man()
	goal, e := ops.And(m, to, p)
	if e != api.OK {
		return nil, e
	}
	defer m.Drop(goal)
	rings, e := toward(r, from, New(r, goal, Among(r, p, image.Pre)))
	if e != api.OK {
		return nil, e
	}
	defer m.Drop(rings...)
	last := len(rings) - 1
	start, e := sets.Least(r, from, rings[last])
	if e != api.OK {
		return nil, e
	}
	return Down(r, rings, last, start)
}

// toward closes a search and returns new handles of its frontiers up to the first one that contains a state of from.
func toward(r *rel.Rel, from int, s *Search) (l []int, e api.Errno) {
	defer s.Close()
back:
	for {
		more, e := s.Next()
		switch {
		case e != api.OK:
			return nil, e
		case !more:
			return nil, api.ErrPath
		}
		if e := s.Keep(); e != api.OK {
			return nil, e
		}
		switch met, e := ops.Meets(r.Man(), from, s.Last()); {
		case e != api.OK:
			return nil, e
		case met:
			break back
		}
	}
	return s.Take(), api.OK
}

// Down returns a path from s, a state of the frontier l[n], down to l[0], on which each state is the least successor of the one before that is in the next lower frontier.
func Down(r *rel.Rel, l []int, n int, s []int) (path [][]int, e api.Errno) {
	path = [][]int{slices.Clone(s)}
	for k := range n {
		if s, e = successor(r, s, l[n-1-k]); e != api.OK {
			return nil, e
		}
		path = append(path, s)
	}
	return path, api.OK
}

// successor returns the least successor of a state that is in a set.
func successor(r *rel.Rel, s []int, set int) (next []int, e api.Errno) {
	m := r.Man()
	here, e := blast.State(m, r.Layout(), s, false)
	if e != api.OK {
		return nil, e
	}
	defer m.Drop(here)
	later, e := image.Post(r, here)
	if e != api.OK {
		return nil, e
	}
	defer m.Drop(later)
	next, e = sets.Least(r, later, set)
	if e == api.ErrEmpty {
		return nil, api.ErrPath
	}
	return next, e
}
