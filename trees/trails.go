package trees

import (
	"slices"
	"strconv"

	"voussoir/api"
	"voussoir/frontier"
	"voussoir/image"
	"voussoir/lasso"
	"voussoir/rel"
	"voussoir/sets"
)

// trail is a path that comes by a state, at its index at. It may go on with the state at the index loop then.
type trail struct {
	path     [][]int
	loop, at int
}

// trails are the paths that are known so far, by the states on them.
type trails map[string]trail

// key returns what tells a state from all others.
func key(s []int) string {
	var text []byte
	for _, n := range s {
		text = strconv.AppendInt(text, int64(n), 10)
		text = append(text, ' ')
	}
	return string(text)
}

// note keeps a path for all states on it.
func (l trails) note(path [][]int, loop int) {
	for i, s := range path {
		l[key(s)] = trail{path, loop, i}
	}
}

// round returns a lasso from s on within a set.
func (b *builder) round(set int, s []int) (path [][]int, loop int, e api.Errno) {
	if b.rounds[set] == nil {
		b.rounds[set] = trails{}
	}
	way, known := b.rounds[set][key(s)]
	if !known {
		if way.path, way.loop, e = lasso.Of(b.r, set, s); e != api.OK {
			return nil, 0, e
		}
		b.rounds[set].note(way.path, way.loop)
	}
	if way.at <= way.loop {
		return way.path[way.at:], way.loop - way.at, api.OK
	}
	return slices.Concat(way.path[way.at:], way.path[way.loop:way.at]), 0, api.OK
}

// slope leads through some states by shortest ways down to others.
type slope struct {
	r      *rel.Rel
	foot   int // the set of those others
	search *frontier.Search
	rings  []int // those frontiers that were needed so far
	known  trails
}

// newSlope returns the slope through the states of p to those of q.
func newSlope(r *rel.Rel, p, q int) *slope {
	return &slope{r: r, foot: q, search: frontier.New(r, q, frontier.Among(r, p, image.Pre)), known: trails{}}
}

// close drops the handles.
func (x *slope) close() {
	x.search.Close()
	x.r.Man().Drop(x.rings...)
}

// step returns a path of one transition from s down, which leads to the least state that there is.
func (x *slope) step(s []int) (path [][]int, e api.Errno) {
	return frontier.Down(x.r, []int{x.foot}, 1, s)
}

// down returns a shortest path from s down, or ErrPath if there is none.
func (x *slope) down(s []int) (path [][]int, e api.Errno) {
	if way, known := x.known[key(s)]; known {
		return way.path[way.at:], api.OK
	}
	n, e := x.height(s)
	if e != api.OK {
		return nil, e
	}
	path, e = frontier.Down(x.r, x.rings, n, s)
	x.known.note(path, 0)
	return path, e
}

// height returns the index of the frontier to which s belongs, or ErrPath if it belongs to none.
func (x *slope) height(s []int) (n int, e api.Errno) {
	for n := 0; ; n++ {
		if n == len(x.rings) {
			if e := x.further(); e != api.OK {
				return 0, e
			}
		}
		switch here, e := sets.Has(x.r, x.rings[n], s); {
		case e != api.OK:
			return 0, e
		case here:
			return n, api.OK
		}
	}
}

// further adds the next frontier, or returns ErrPath if there is none.
func (x *slope) further() api.Errno {
	more, e := x.search.Next()
	switch {
	case e != api.OK:
		return e
	case !more:
		return api.ErrPath
	}
	ring, e := x.r.Man().Copy(x.search.Last())
	if e == api.OK {
		x.rings = append(x.rings, ring)
	}
	return e
}
