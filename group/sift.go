package group

import (
	"slices"

	"voussoir/api"
	"voussoir/given"
	"voussoir/perm"
	"voussoir/supp"
	"voussoir/travel"
)

// mostGrow is the greatest number of percent by which the size may be above the smallest one.
const mostGrow = 1000

// Sift gathers the groups, moves each of them as a whole to a better position, and returns the size in the end.
func (g *Groups) Sift(grow int, l ...int) (size int, e api.Errno) {
	if g == nil {
		return 0, api.ErrNone
	}
	if e := given.Flaw(g.m, l, nil); e != api.OK {
		return 0, e
	}
	if e := g.Gather(); e != api.OK {
		return 0, e
	}
	s := sifting{g, l, 100 + min(max(grow, 0), mostGrow)}
	apply(g.l, s.settle)
	return s.size(), api.OK
}

// apply calls do for each group that is not empty.
func apply(l [][]int, do func(group []int)) {
	for _, group := range l {
		if len(group) > 0 {
			do(group)
		}
	}
}

// sifting is the sifting of groups that are gathered.
type sifting struct {
	*Groups
	handles []int // those whose size counts
	percent int   // of the smallest size, which the size may be
}

// settle moves a group through other positions and leaves it at the best one.
func (s sifting) settle(group []int) {
	blocks := s.blocks()
	first := func(block []int) bool { return block[0] == group[0] }
	row := travel.Row{Last: len(blocks) - 1, Step: s.step, Size: s.size, More: s.more}
	row.Settle(slices.IndexFunc(blocks, first))
}

// size returns the present size of the handles, which Size knows.
func (s sifting) size() int {
	n, _ := supp.Size(s.m, s.handles...)
	return n
}

// more reports whether a size is not too much above the least one.
func (s sifting) more(size, least int) bool {
	return size*100 <= least*s.percent
}

// step exchanges two blocks that are side by side. If one of the swaps that this takes is refused, it undoes those before.
func (s sifting) step(from, to int) bool {
	levels := s.way(from, to)
	for i, level := range levels {
		if s.m.Swap(level) == api.OK {
			continue
		}
		for _, done := range slices.Backward(levels[:i]) {
			s.m.Swap(done)
		}
		return false
	}
	return true
}

// way returns the swaps that exchange two blocks. The way up is the way down backwards: no other one is sure not to be refused after the way down.
func (s sifting) way(from, to int) []int {
	order, blocks := s.m.Order(), s.blocks()
	blocks[from], blocks[to] = blocks[to], blocks[from]
	target := slices.Concat(blocks...)
	if from < to {
		levels, _ := perm.Steps(order, target)
		return levels
	}
	levels, _ := perm.Steps(target, order)
	slices.Reverse(levels)
	return levels
}
