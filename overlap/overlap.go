// Package overlap tells amid an operation whether functions have assignments in common. It makes no nodes, as it needs to know no more of a conjunction than whether it is false.
package overlap

import (
	"voussoir/dd"
	"voussoir/edge"
)

// opMeets is the operation whose results the manager remembers. It begins with the number of the chapter of package ops, which this package is a part of, so that no other layer has it.
const opMeets = 1401

// Meets reports whether f and g are both true at some assignment.
func Meets(x *dd.Ctx, f, g edge.Edge) bool {
	if r, known := edge.Meet(f, g); known {
		return r != edge.Zero
	}
	answer := x.Memo(opMeets, f, g, 0, func() edge.Edge {
		v := x.Top(f, g)
		f0, f1 := x.Split(f, v)
		g0, g1 := x.Split(g, v)
		if Meets(x, f0, g0) || Meets(x, f1, g1) {
			return edge.One
		}
		return edge.Zero
	})
	return answer == edge.One
}

// Within reports whether g is true wherever f is.
func Within(x *dd.Ctx, f, g edge.Edge) bool {
	return !Meets(x, f, g.Not())
}
