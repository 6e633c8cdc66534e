// Package edge implements complemented edges and ITE normalization. See shared/doc/08-edge.md.
package edge

// Edge is twice a node number, plus 1 if the edge is complemented.
type Edge int

// One refers to node 0, the constant true; Zero is its complement.
const (
	One  Edge = 0
	Zero Edge = 1
)

// Of returns the edge to that node.
func Of(node int, not bool) Edge {
	return Edge(2 * max(node, 0)).Flip(not)
}

// Node returns the node number.
func (e Edge) Node() int {
	return int(max(e, 0)) / 2
}

// Neg reports whether the edge is complemented.
func (e Edge) Neg() bool {
	return e > 0 && e%2 == 1
}

// Not returns the edge to the same node with the opposite complement flag.
func (e Edge) Not() Edge {
	return e ^ 1
}

// Flip returns the complement if yes is true, and the edge itself otherwise.
func (e Edge) Flip(yes bool) Edge {
	if yes {
		return e.Not()
	}
	return e
}

// Const reports whether the edge refers to node 0.
func (e Edge) Const() bool {
	return e == One || e == Zero
}

// Norm returns both edges, or both complements, so that hi is not complemented.
func Norm(lo, hi Edge) (l, h Edge, not bool) {
	turn := Edge.Not
	if hi.Neg() {
		return turn(lo), turn(hi), true
	}
	return lo, hi, false
}

// Meet returns the conjunction, if it follows from the edge values alone.
func Meet(f, g Edge) (r Edge, ok bool) {
	switch {
	case f == Zero || g == Zero || f == g.Not():
		return Zero, true
	case f == One:
		return g, true
	case g == One || f == g:
		return f, true
	}
	return 0, false
}

// Ite normalizes the operation "if f then g else h".
func Ite(f, g, h Edge) (a, b, c Edge, not bool, r Edge, done bool) {
	g, h = known(f, g, One), known(f, h, Zero)
	if r, done = settled([3]Edge{f, g, h}); done {
		return 0, 0, 0, false, r, true
	}
	turn := Edge.Not
	if f.Neg() {
		f, g, h = turn(f), h, g
	}
	if g.Neg() {
		g, h, not = turn(g), turn(h), true
	}
	return f, g, h, not, 0, false
}

// known returns what stands for an operand that equals f, or its complement, in the case that f has the value here.
func known(f, operand, here Edge) Edge {
	switch operand {
	case f:
		return here
	case f.Not():
		return here.Not()
	}
	return operand
}

// settled returns the result of the operation on the operands, if it is one of them or the complement of the first.
func settled(operands [3]Edge) (r Edge, ok bool) {
	f, g, h := operands[0], operands[1], operands[2]
	switch {
	case f == One || g == h:
		return g, true
	case f == Zero:
		return h, true
	case operands == [3]Edge{f, One, Zero}:
		return f, true
	case operands == [3]Edge{f, Zero, One}:
		return f.Not(), true
	}
	return 0, false
}
