// Package travel moves something step by step along a row of places and leaves it at the best one.
package travel

import "cmp"

// Row is a row of places, of which each has a size. A step can be refused, but not the step back over one that was done.
type Row struct {
	Last int                        // the places are numbered from 0 to this one
	Step func(from, to int) bool    // moves on to the place to, unless that is refused
	Size func() int                 // returns the size at the present place
	More func(size, least int) bool // reports, after a step, whether to go on that way; least is the least size so far
}

// Settle begins at start and goes both ways, as far as it can and may. It ends at the place with the least size, at start if no other is better, and returns that size.
func (r Row) Settle(start int) (size int) {
	at, best := start, start
	size = r.Size()
	walk := func(to int, look bool) {
		for at != to {
			next := at + cmp.Compare(to, at)
			if !r.Step(at, next) {
				return
			}
			at = next
			if look && !r.look(at, &size, &best) {
				return
			}
		}
	}
	walk(r.Last, true)
	walk(start, false)
	walk(0, true)
	walk(best, false)
	return size
}

// look takes the present place for the best one if its size is less than the least so far, and reports whether to go on.
func (r Row) look(at int, least, best *int) bool {
	size := r.Size()
	if size < *least {
		*least, *best = size, at
	}
	return r.More(size, *least)
}
