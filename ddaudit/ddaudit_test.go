package ddaudit_test

import (
	"maps"
	"math"
	"math/rand"
	"slices"
	"testing"

	"voussoir/api"
	"voussoir/dd"
	"voussoir/ddaudit"
)

func node(id, v, lo, hi, refs int) api.Node {
	return api.Node{ID: id, Var: v, Lo: lo, Hi: hi, Refs: refs}
}

// finds checks what is found in the nodes for the order 0, 1, 2.
func finds(t *testing.T, about string, l []api.Node, want ...ddaudit.Finding) {
	t.Helper()
	if got := ddaudit.Nodes([]int{0, 1, 2}, l...); !slices.Equal(got, want) {
		t.Errorf("%s: %v; want %v", about, got, want)
	}
}

func found(kind, id int) ddaudit.Finding { return ddaudit.Finding{Kind: kind, ID: id} }

func TestTheExample(t *testing.T) {
	got := ddaudit.Nodes([]int{0, 1}, node(1, 1, 1, 0, 0), node(2, 1, 2, 3, 0))
	if want := []ddaudit.Finding{found(ddaudit.Neg, 2), found(ddaudit.Order, 2)}; !slices.Equal(got, want) {
		t.Error(got)
	}
}

func TestKinds(t *testing.T) {
	if l := [...]int{ddaudit.Order, ddaudit.Twice, ddaudit.Same, ddaudit.Neg, ddaudit.Lost}; l != [...]int{1, 2, 3, 4, 5} {
		t.Error(l)
	}
}

func TestEachKind(t *testing.T) {
	last := node(1, 2, 1, 0, 0)
	finds(t, "nothing", nil)
	finds(t, "a node", []api.Node{last})
	finds(t, "a node below", []api.Node{last, node(2, 0, 3, 2, 0)})
	finds(t, "a node below, later", []api.Node{node(2, 0, 3, 2, 0), last})
	finds(t, "hi complemented", []api.Node{node(1, 2, 0, 1, 0)}, found(ddaudit.Neg, 1))
	finds(t, "hi complemented", []api.Node{last, node(2, 1, 0, 3, 0)}, found(ddaudit.Neg, 2))
	finds(t, "lo complemented", []api.Node{last, node(2, 1, 3, 0, 0)})
	finds(t, "the same", []api.Node{node(1, 2, 0, 0, 0)}, found(ddaudit.Same, 1))
	finds(t, "the same", []api.Node{last, node(2, 1, 3, 3, 0)}, found(ddaudit.Neg, 2), found(ddaudit.Same, 2))
	finds(t, "complements", []api.Node{last, node(2, 1, 3, 2, 0)})
	finds(t, "lost", []api.Node{node(1, 2, 4, 0, 0)}, found(ddaudit.Lost, 1))
	finds(t, "lost", []api.Node{node(1, 2, 0, 4, 0)}, found(ddaudit.Lost, 1))
	finds(t, "below 0", []api.Node{node(1, 2, -1, 0, 0)}, found(ddaudit.Lost, 1))
	finds(t, "below 0", []api.Node{node(1, 2, 1, -1, 0)}, found(ddaudit.Lost, 1))
	finds(t, "below 0", []api.Node{node(1, 2, -3, -2, 0)}, found(ddaudit.Lost, 1))
	finds(t, "below 0", []api.Node{node(1, 2, math.MinInt, math.MinInt, 0)}, found(ddaudit.Same, 1), found(ddaudit.Lost, 1))
	finds(t, "an ID below 0", []api.Node{node(-1, 2, 1, 0, 0), node(1, 1, -2, 0, 0)}, found(ddaudit.Lost, 1))
	finds(t, "far away", []api.Node{node(1, 2, math.MaxInt, 0, 0)}, found(ddaudit.Lost, 1))
	finds(t, "an unknown variable", []api.Node{node(1, 3, 1, 0, 0)}, found(ddaudit.Order, 1))
	finds(t, "an unknown variable", []api.Node{node(1, -1, 1, 0, 0)}, found(ddaudit.Order, 1))
	finds(t, "above an unknown variable", []api.Node{node(1, 3, 1, 0, 0), node(2, 0, 1, 2, 0)}, found(ddaudit.Order, 1), found(ddaudit.Order, 2))
	finds(t, "the same variable below", []api.Node{last, node(2, 2, 3, 0, 0)}, found(ddaudit.Order, 2))
	finds(t, "a variable above below", []api.Node{node(1, 1, 1, 0, 0), node(2, 2, 0, 2, 0)}, found(ddaudit.Order, 2))
	finds(t, "to itself", []api.Node{node(1, 1, 3, 0, 0)}, found(ddaudit.Order, 1))
	finds(t, "lost and out of order", []api.Node{last, node(2, 2, 2, 8, 0)}, found(ddaudit.Lost, 2), found(ddaudit.Order, 2))
	finds(t, "twice", []api.Node{last, node(2, 2, 1, 0, 0)}, found(ddaudit.Twice, 2))
	finds(t, "twice", []api.Node{last, last, last}, found(ddaudit.Twice, 1), found(ddaudit.Twice, 1))
	finds(t, "an ID twice", []api.Node{last, node(1, 1, 1, 0, 0)}, found(ddaudit.Twice, 1))
	finds(t, "other references", []api.Node{last, node(4, 2, 1, 0, 5)}, found(ddaudit.Twice, 4))
	finds(t, "another variable", []api.Node{last, node(2, 1, 1, 0, 0)})
	finds(t, "other edges", []api.Node{node(2, 0, 3, 2, 0), node(1, 2, 1, 0, 0), node(3, 0, 2, 3, 0)}, found(ddaudit.Neg, 3))
	finds(t, "all", []api.Node{node(9, 4, 5, 5, 0), node(9, 4, 5, 5, 0)},
		found(ddaudit.Neg, 9), found(ddaudit.Same, 9), found(ddaudit.Lost, 9), found(ddaudit.Order, 9),
		found(ddaudit.Neg, 9), found(ddaudit.Same, 9), found(ddaudit.Lost, 9), found(ddaudit.Order, 9), found(ddaudit.Twice, 9))
}

// Node 0 is the terminal node, and may be one of the list, too.
func TestNodeZero(t *testing.T) {
	finds(t, "no node 0", []api.Node{node(1, 2, 1, 0, 0)})
	finds(t, "a node 0", []api.Node{node(0, 2, 1, 0, 0)}, found(ddaudit.Order, 0))
	finds(t, "a node 0 below", []api.Node{node(1, 1, 1, 0, 0), node(0, 2, 4, 5, 0)}, found(ddaudit.Neg, 0), found(ddaudit.Lost, 0))
	finds(t, "a node 0 above", []api.Node{node(1, 1, 1, 0, 0), node(0, 0, 3, 2, 0)}, found(ddaudit.Order, 1))
	if l := ddaudit.Dead(node(0, 0, 3, 2, 0), node(1, 1, 1, 0, 1)); len(l) != 0 {
		t.Error(l)
	}
	if l := ddaudit.Dead(node(0, 0, 3, 2, 0), node(1, 1, 1, 0, 0)); !slices.Equal(l, []int{0, 1}) {
		t.Error(l)
	}
	if r := ddaudit.Refs(node(0, 0, 3, 2, 0), node(1, 1, 1, 0, 0)); !maps.Equal(r, map[int]int{0: 2, 1: 2}) {
		t.Error(r)
	}
}

func TestOrderWithRepetitions(t *testing.T) {
	l := []api.Node{node(1, 7, 1, 0, 0), node(2, 5, 1, 2, 0)}
	for _, x := range []struct {
		order []int
		want  []ddaudit.Finding
	}{
		{[]int{5, 7}, nil},
		{[]int{5, 7, 5}, nil},
		{[]int{7, 5, 7}, []ddaudit.Finding{found(ddaudit.Order, 2)}},
		{[]int{-1, 5, 5, math.MaxInt, 7, 7}, nil},
		{[]int{7}, []ddaudit.Finding{found(ddaudit.Order, 2)}},
		{[]int{5}, []ddaudit.Finding{found(ddaudit.Order, 1), found(ddaudit.Order, 2)}},
		{nil, []ddaudit.Finding{found(ddaudit.Order, 1), found(ddaudit.Order, 2)}},
	} {
		if got := ddaudit.Nodes(x.order, l...); !slices.Equal(got, x.want) {
			t.Errorf("%v: %v; want %v", x.order, got, x.want)
		}
	}
}

func TestDead(t *testing.T) {
	chain := []api.Node{node(1, 2, 1, 0, 0), node(2, 1, 3, 0, 0), node(3, 0, 0, 4, 0), node(4, 0, 5, 4, 0)}
	for _, x := range []struct {
		held int // the index of the node with references
		want []int
	}{{0, []int{2, 3, 4}}, {1, []int{3, 4}}, {2, []int{4}}, {3, []int{3}}} {
		l := slices.Clone(chain)
		l[x.held].Refs = 2
		slices.Reverse(l)
		if got := ddaudit.Dead(l...); !slices.Equal(got, x.want) {
			t.Errorf("%d: %v; want %v", x.held, got, x.want)
		}
	}
	for _, x := range []struct {
		l    []api.Node
		want []int
	}{
		{nil, nil},
		{chain, []int{1, 2, 3, 4}},
		{[]api.Node{node(5, 0, 1, 0, -1), node(5, 0, 1, 0, 0), node(-3, 0, 1, 0, 0)}, []int{-3, 5}},
		{[]api.Node{node(5, 0, 1, 0, 0), node(5, 0, 13, 0, 1), node(6, 0, -1, 99, 0)}, nil},
		{[]api.Node{node(5, 0, 13, 0, 0), node(5, 0, 1, 0, 1), node(6, 0, -1, 99, 0)}, nil},
		{[]api.Node{node(1, 0, 2, 4, 0), node(2, 0, 2, 4, 0)}, []int{1, 2}},
		{[]api.Node{node(1, 0, 2, 4, 1), node(2, 0, 2, 4, 0), node(7, 0, 2, 4, math.MinInt)}, []int{7}},
		{[]api.Node{node(-1, 0, 0, 0, 0), node(1, 0, -2, -1, 1)}, []int{-1}},
	} {
		if got := ddaudit.Dead(x.l...); !slices.Equal(got, x.want) {
			t.Errorf("%v: %v; want %v", x.l, got, x.want)
		}
	}
}

func TestRefs(t *testing.T) {
	for _, x := range []struct {
		l    []api.Node
		want map[int]int
	}{
		{nil, nil},
		{[]api.Node{node(1, 2, 1, 0, 9)}, nil},
		{[]api.Node{node(1, 2, 1, 0, 0), node(2, 1, 3, 2, 0), node(3, 0, 2, 4, 0)}, map[int]int{1: 3, 2: 1}},
		{[]api.Node{node(1, 2, 2, 3, 0)}, map[int]int{1: 2}},
		{[]api.Node{node(1, 2, 1, 0, 0), node(1, 2, 1, 0, 0), node(2, 0, 2, 0, 0), node(2, 0, 2, 0, 0)}, map[int]int{1: 2}},
		{[]api.Node{node(-1, 2, -1, -2, 0), node(5, 2, 12, 9, 0)}, nil},
	} {
		if got := ddaudit.Refs(x.l...); !maps.Equal(got, x.want) {
			t.Errorf("%v: %v; want %v", x.l, got, x.want)
		}
	}
}

// leads reports whether an edge leads to n.
func leads(e int, n api.Node) bool {
	return e >= 0 && e/2 == n.ID
}

// slow is Nodes, as its words say, node by node and edge by edge.
func slow(order []int, l []api.Node) (all []ddaudit.Finding) {
	for i, n := range l {
		here := slices.Index(order, n.Var)
		lost, wrong, twice := false, here < 0, false
		for _, e := range []int{n.Lo, n.Hi} {
			target := e == 0 || e == 1
			for _, other := range l {
				if leads(e, other) {
					target = true
					there := slices.Index(order, other.Var)
					wrong = wrong || there < 0 || there <= here
				}
			}
			lost = lost || !target
		}
		for _, other := range l[:i] {
			twice = twice || other.ID == n.ID || other.Var == n.Var && other.Lo == n.Lo && other.Hi == n.Hi
		}
		for _, x := range []struct {
			kind int
			yes  bool
		}{{4, n.Hi > 0 && n.Hi%2 == 1}, {3, n.Lo == n.Hi}, {5, lost}, {1, wrong}, {2, twice}} {
			if x.yes {
				all = append(all, found(x.kind, n.ID))
			}
		}
	}
	return all
}

func TestRandomNodes(t *testing.T) {
	r := rand.New(rand.NewSource(25))
	clean := 0
	for range 20000 {
		var l []api.Node
		order := r.Perm(5)
		for i := range r.Intn(7) {
			n := node(1+i, order[max(4-i, 0)], r.Intn(2*i+2)-r.Intn(20)/19, 2*r.Intn(i+1), r.Intn(3)/2)
			if r.Intn(9) == 0 {
				n.ID, n.Hi = r.Intn(9)-1, r.Intn(16)
			}
			l = append(l, n)
		}
		if r.Intn(4) == 0 {
			order[r.Intn(5)] = r.Intn(6)
		}
		want := slow(order, l)
		if len(want) == 0 && len(l) > 2 {
			clean++
		}
		given := slices.Clone(l)
		if got := ddaudit.Nodes(order, l...); !slices.Equal(got, want) || !slices.Equal(l, given) {
			t.Fatalf("%v, %v: %v; want %v", order, l, got, want)
		}
		reached := map[int]bool{}
		for range len(l) + 1 {
			for _, n := range l {
				if n.Refs > 0 {
					reached[n.ID] = true
				}
				for _, other := range l {
					if reached[other.ID] && (leads(other.Lo, n) || leads(other.Hi, n)) {
						reached[n.ID] = true
					}
				}
			}
		}
		var dead []int
		many := map[int]int{}
		for _, n := range l {
			if !reached[n.ID] {
				dead = append(dead, n.ID)
			}
			edges := 0
			for _, other := range l {
				if leads(other.Lo, n) {
					edges++
				}
				if leads(other.Hi, n) {
					edges++
				}
			}
			if edges > 0 {
				many[n.ID] = edges
			}
		}
		slices.Sort(dead)
		dead = slices.Compact(dead)
		if got := ddaudit.Dead(l...); !slices.Equal(got, dead) {
			t.Fatalf("Dead of %v: %v; want %v", l, got, dead)
		}
		if got := ddaudit.Refs(l...); !maps.Equal(got, many) {
			t.Fatalf("Refs of %v: %v; want %v", l, got, many)
		}
	}
	if clean < 200 {
		t.Error(clean)
	}
}

func TestManagers(t *testing.T) {
	if l := ddaudit.Man(nil); len(l) != 0 {
		t.Error(l)
	}
	r := rand.New(rand.NewSource(26))
	some := 0
	for range 200 {
		vars := r.Intn(7)
		m, e := dd.New(vars, 5+r.Intn(300))
		if e != api.OK {
			t.Fatal(e)
		}
		handles := []int{0, 1}
		pick := func() int { return handles[r.Intn(len(handles))] }
		for range 60 {
			h, e := 0, api.ErrNone
			switch r.Intn(6) {
			case 0:
				h, e = m.Var(r.Intn(vars + 1))
			case 1, 2:
				h, e = m.Ite(pick(), pick(), pick())
			case 3:
				m.Swap(r.Intn(vars + 1))
			case 4:
				m.Plan(api.Event{After: 1 + r.Intn(9), Kind: 1 + r.Intn(3), Level: r.Intn(max(vars-1, 1))})
			default:
				i := r.Intn(len(handles))
				m.Drop(handles[i])
				if handles[i] > 1 {
					handles = slices.Delete(handles, i, i+1)
				}
			}
			if e == api.OK {
				handles = append(handles, h)
			}
			if l := ddaudit.Man(m); len(l) != 0 {
				t.Fatal(l)
			}
		}
		for _, h := range handles[:len(handles)/2] {
			m.Drop(h)
		}
		dead := ddaudit.Dead(slices.Collect(m.Each())...)
		some += len(dead)
		if n := m.Collect(); n != len(dead) {
			t.Fatalf("%d collected; %v were dead", n, dead)
		}
		if dead = ddaudit.Dead(slices.Collect(m.Each())...); len(dead) != 0 {
			t.Fatal(dead)
		}
	}
	if some < 100 {
		t.Error(some)
	}
}
