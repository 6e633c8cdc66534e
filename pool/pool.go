// Package pool implements a bounded pool of node slots. See shared/doc/09-pool.md.
package pool

import (
	"iter"

	"voussoir/api"
)

// Pool is a bounded number of slots for nodes.
type Pool struct {
	room  int
	nodes []api.Node // by slot, from slot 1 on; a free slot holds the zero node
	stack []int      // the memory of free, which grows only
	free  []int      // the released slots, the last one at the end
}

// New returns a pool with room slots, all of them free.
func New(room int) (p *Pool, e api.Errno) {
	if room < 1 || room > api.MaxRoom {
		return nil, api.ErrRange
	}
	return &Pool{room: room}, api.OK
}

// Room returns the number of slots.
func (p *Pool) Room() int {
	if p == nil {
		return 0
	}
	return p.room
}

// Len returns the number of allocated slots.
func (p *Pool) Len() int {
	if p == nil {
		return 0
	}
	return len(p.nodes) - len(p.free)
}

// Take allocates a slot and stores n in it.
func (p *Pool) Take(n api.Node) (id int, e api.Errno) {
	if p == nil {
		return 0, api.ErrNone
	}
	switch last := len(p.free) - 1; {
	case last >= 0:
		id = p.free[last]
		p.free = p.free[:last:last]
	case len(p.nodes) < p.room:
		p.nodes = append(p.nodes, api.Node{})
		id = len(p.nodes)
	default:
		return 0, api.ErrRoom
	}
	n.ID = id
	p.nodes[id-1] = n
	return id, api.OK
}

// Give releases a slot.
func (p *Pool) Give(id int) api.Errno {
	if !p.has(id) {
		return api.ErrNone
	}
	p.nodes[id-1] = api.Node{}
	many := len(p.free)
	if many == len(p.stack) {
		p.stack = append(p.stack, 0)
	}
	// free has no capacity of its own to grow into: an append would copy it whole after every Take.
	p.stack[many] = id
	p.free = p.stack[: many+1 : many+1]
	return api.OK
}

// has reports whether slot id is allocated.
func (p *Pool) has(id int) bool {
	return p != nil && id >= 1 && id <= len(p.nodes) && p.nodes[id-1].ID == id
}

// At returns the node stored in slot id.
func (p *Pool) At(id int) (n api.Node, ok bool) {
	if !p.has(id) {
		return api.Node{}, false
	}
	return p.nodes[id-1], true
}

// Set replaces the node stored in slot n.ID by n.
func (p *Pool) Set(n api.Node) api.Errno {
	if !p.has(n.ID) {
		return api.ErrNone
	}
	p.nodes[n.ID-1] = n
	return api.OK
}

// Each returns an iterator over the stored nodes in increasing order of ID.
func (p *Pool) Each() iter.Seq[api.Node] {
	return func(yield func(api.Node) bool) {
		for id := range p.taken() {
			if !yield(p.nodes[id-1]) {
				return
			}
		}
	}
}

// taken returns an iterator over the allocated slots in increasing order.
func (p *Pool) taken() iter.Seq[int] {
	return func(yield func(int) bool) {
		if p == nil {
			return
		}
		for i := range p.nodes {
			if p.has(i+1) && !yield(i+1) {
				return
			}
		}
	}
}
