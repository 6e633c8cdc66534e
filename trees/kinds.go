package trees

import (
	"slices"

	"voussoir/api"
	"voussoir/sets"
)

// method returns what completes a tree for a formula like f: it is given the goal, and the tree with its state and formula.
func (b *builder) method(f api.Form) func(g *goal, t *api.Tree) api.Errno {
	switch f.Op {
	case api.FTerm:
		return b.plain
	case api.FAnd:
		return b.both
	case api.FOr:
		return b.one
	case api.FEX:
		return b.next
	case api.FEF:
		return b.sometime
	case api.FEG:
		return b.always
	case api.FEU:
		return b.until
	case api.FNot:
		if f.Kids[0].Op == api.FAU {
			return b.refutation
		}
	}
	return b.told
}

// plain is the method for an FTerm.
func (b *builder) plain(g *goal, t *api.Tree) api.Errno {
	t.Kind = api.KPlain
	return api.OK
}

// told is the method for a formula that is claimed without a proof.
func (b *builder) told(g *goal, t *api.Tree) api.Errno {
	t.Kind = api.KTold
	return api.OK
}

// both is the method for an FAnd.
func (b *builder) both(g *goal, t *api.Tree) api.Errno {
	t.Kind = api.KBoth
	return b.grow(t, 2, func(i int) (*goal, []int) { return g.kids[i], t.State })
}

// one is the method for an FOr.
func (b *builder) one(g *goal, t *api.Tree) api.Errno {
	t.Kind = api.KOne
	first, e := sets.Has(b.r, g.kids[0].set, t.State)
	if e != api.OK {
		return e
	}
	if !first {
		t.At = 1
	}
	return b.grow(t, 1, func(int) (*goal, []int) { return g.kids[t.At], t.State })
}

// next is the method for an FEX.
func (b *builder) next(g *goal, t *api.Tree) api.Errno {
	head, e := g.slope.step(t.State)
	if e != api.OK {
		return e
	}
	return b.arrive(g, t, head)
}

// sometime is the method for an FEF.
func (b *builder) sometime(g *goal, t *api.Tree) api.Errno {
	head, e := g.slope.down(t.State)
	if e != api.OK {
		return e
	}
	return b.arrive(g, t, head)
}

// arrive completes a tree in which the operand holds in the last state of head.
func (b *builder) arrive(g *goal, t *api.Tree, head [][]int) api.Errno {
	if e := b.lead(t, head); e != api.OK {
		return e
	}
	return b.grow(t, 1, func(int) (*goal, []int) { return g.kids[0], t.Path[t.At] })
}

// until is the method for an FEU.
func (b *builder) until(g *goal, t *api.Tree) api.Errno {
	head, e := g.slope.down(t.State)
	if e != api.OK {
		return e
	}
	if e := b.lead(t, head); e != api.OK {
		return e
	}
	return b.grow(t, t.At+1, func(i int) (*goal, []int) {
		if i < t.At {
			return g.kids[0], t.Path[i]
		}
		return g.kids[1], t.Path[i]
	})
}

// always is the method for an FEG.
func (b *builder) always(g *goal, t *api.Tree) api.Errno {
	return b.stay(g.kids[0], t)
}

// refutation is the method for the negation of an FAU: a path comes to a state in which neither operand holds before the second one does, or the second one never does.
func (b *builder) refutation(g *goal, t *api.Tree) api.Errno {
	if len(g.kids) == 0 {
		return api.ErrTree
	}
	head, e := g.slope.down(t.State)
	switch e {
	case api.OK:
	case api.ErrPath:
		t.At = -1
		return b.stay(g.kids[1], t)
	default:
		return e
	}
	if e := b.lead(t, head); e != api.OK {
		return e
	}
	return b.grow(t, t.At+2, func(i int) (*goal, []int) {
		if i <= t.At {
			return g.kids[1], t.Path[i]
		}
		return g.kids[0], t.Path[t.At]
	})
}

// lead gives t a path that begins with head, and At for the last state of that.
func (b *builder) lead(t *api.Tree, head [][]int) api.Errno {
	last := len(head) - 1
	path, loop, e := b.round(b.r.Valid(), head[last])
	if e != api.OK {
		return e
	}
	t.Kind, t.Path, t.Loop, t.At = api.KPath, slices.Concat(head[:last], path), last+loop, last
	fold(t)
	return api.OK
}

// fold cuts the path of t as short as it can be without being another one and without losing the state at At: the loop may begin one state earlier if it ends with that state, too.
func fold(t *api.Tree) {
	for end := len(t.Path) - 1; end > t.At && t.Loop > 0 && slices.Equal(t.Path[end], t.Path[t.Loop-1]); end-- {
		t.Path = t.Path[:end]
		t.Loop--
	}
}

// stay gives t a path in all states of which a goal holds, and Kids that explain that.
func (b *builder) stay(g *goal, t *api.Tree) (e api.Errno) {
	t.Kind = api.KPath
	if t.Path, t.Loop, e = b.round(g.set, t.State); e != api.OK {
		return e
	}
	return b.grow(t, len(t.Path), func(i int) (*goal, []int) { return g, t.Path[i] })
}
