package nodes

import (
	"slices"

	"voussoir/perm"
)

// levels is a variable order.
type levels struct {
	vars   []int // the variable at each level
	places []int // the level of each variable
}

func newLevels(vars int) levels {
	return levels{vars: perm.Ident(vars), places: perm.Ident(vars)}
}

// many returns the number of levels.
func (l *levels) many() int {
	return len(l.vars)
}

// level returns the level of variable v, or -1.
func (l *levels) level(v int) int {
	if v < 0 || v >= len(l.places) {
		return -1
	}
	return l.places[v]
}

// list returns the variable at each level, in memory of its own.
func (l *levels) list() []int {
	return slices.Clone(l.vars)
}

// adjacent returns the variables at that level, which is not the last, and at the next one.
func (l *levels) adjacent(level int) (upper, lower int) {
	return l.vars[level], l.vars[level+1]
}

// exchange exchanges the variables at that level and at the next one.
func (l *levels) exchange(level int) {
	l.vars = perm.Swap(l.vars, level)
	l.places = perm.Inverse(l.vars)
}
