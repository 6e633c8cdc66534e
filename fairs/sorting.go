package fairs

import (
	"voussoir/api"
	"voussoir/cubes"
	"voussoir/dd"
	"voussoir/endless"
	"voussoir/frontier"
	"voussoir/image"
	"voussoir/ops"
	"voussoir/rel"
	"voussoir/satp"
)

// sorting takes the strongly connected components of a set one by one. It owns its handles.
type sorting struct {
	r     *rel.Rel
	m     *dd.Man
	core  int   // the states of the fair components so far
	parts []int // what is left of the set: components that are whole
}

// close drops the handles.
func (s *sorting) close() {
	s.m.Drop(s.parts...)
	s.m.Drop(s.core)
}

// add adds a part.
func (s *sorting) add(h int, e api.Errno) api.Errno {
	if e == api.OK {
		s.parts = append(s.parts, h)
	}
	return e
}

// next takes a component of the last part, in place of which there are two others then, or none if it is empty.
func (s *sorting) next() api.Errno {
	last := len(s.parts) - 1
	set := s.parts[last]
	s.parts = s.parts[:last]
	defer s.m.Drop(set)
	state, e := single(s.r, set)
	switch e {
	case api.ErrEmpty:
		return api.OK
	case api.OK:
	default:
		return e
	}
	defer s.m.Drop(state)
	some, back, e := reached(s.r, state, set)
	if e != api.OK {
		return e
	}
	defer s.m.Drop(some)
	component, e := frontier.New(s.r, state, frontier.Among(s.r, some, back)).All()
	if e != api.OK {
		return e
	}
	defer s.m.Drop(component)
	return s.split(set, some, component)
}

// split puts a component where it belongs. Some is a part of set to which the component belongs and which is left in one direction only, so that no other component is in both of the new parts.
func (s *sorting) split(set, some, component int) api.Errno {
	fair, e := s.gather(component)
	if e != api.OK {
		return e
	}
	if e := s.part(set, some, fair); e != api.OK {
		return e
	}
	return s.part(some, component, fair)
}

// gather adds a component to the core if it is fair.
func (s *sorting) gather(component int) (fair bool, e api.Errno) {
	cycles, e := endless.Fair(s.r, component, image.Pre) // all of it, or nothing
	if e != api.OK {
		return false, e
	}
	defer s.m.Drop(cycles)
	core, e := ops.Or(s.m, s.core, cycles)
	if e != api.OK {
		return false, e
	}
	s.m.Drop(s.core)
	s.core = core
	unfair, e := s.m.Same(cycles, s.m.Const(false))
	return !unfair, e
}

// part adds what is in one set and not in another. If the last component was unfair, there may be many more such; they are done with all at once, so far as they are not between fair ones.
func (s *sorting) part(set, other int, fair bool) api.Errno {
	rest, e := ops.Diff(s.m, set, other)
	if fair || e != api.OK {
		return s.add(rest, e)
	}
	defer s.m.Drop(rest)
	return s.add(between(s.r, rest))
}

// between returns a new handle of the states of a set that lie on a path within the set from one fair cycle to another, or on a fair cycle.
func between(r *rel.Rel, set int) (h int, e api.Errno) {
	leading, e := endless.Fair(r, set, image.Pre)
	if e != api.OK {
		return 0, e
	}
	defer r.Man().Drop(leading)
	return endless.Fair(r, leading, image.Post)
}

// single returns a new handle of one of the states of a set.
func single(r *rel.Rel, set int) (h int, e api.Errno) {
	vars := r.Layout().AllNow()
	bits, e := satp.Least(r.Man(), set, vars...)
	if e != api.OK {
		return 0, e
	}
	var l []api.Lit
	for i, v := range vars {
		l = append(l, api.Lit{Var: v, Yes: bits[i]})
	}
	return cubes.Of(r.Man(), l...)
}

// reached returns a new handle of the states of set that are met from a state on, forward or backward, and the way back. It is the search that ends first: so it takes few steps to find a small component at an end of a great set.
func reached(r *rel.Rel, state, set int) (h int, back frontier.Way, e api.Errno) {
	ways := [...]frontier.Way{image.Post, image.Pre}
	var searches [len(ways)]*frontier.Search
	for i, way := range ways {
		searches[i] = frontier.New(r, state, frontier.Among(r, set, way))
		defer searches[i].Close()
	}
	for i := 0; ; i = 1 - i {
		more, e := searches[i].Next()
		if e != api.OK {
			return 0, nil, e
		}
		if !more {
			h, e = searches[i].Met()
			return h, ways[1-i], e
		}
	}
}
