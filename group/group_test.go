package group_test

import (
	"math"
	"math/rand"
	"slices"
	"testing"

	"voussoir/api"
	"voussoir/dd"
	"voussoir/group"
	"voussoir/perm"
	"voussoir/reorder"
	"voussoir/supp"
	"voussoir/trial"
)

// groups returns the groups that New makes of l.
func groups(t trial.Test, m *dd.Man, l ...[]int) *group.Groups {
	t.Helper()
	g, e := group.New(m, l...)
	if g == nil || e != api.OK {
		t.Fatalf("%v: %d", l, e)
	}
	return g
}

// same reports whether two lists of lists are equal.
func same(a, b [][]int) bool {
	return slices.EqualFunc(a, b, slices.Equal)
}

func TestTheExample(t *testing.T) {
	m, e := dd.New(4, 100)
	if e != api.OK {
		t.Fatal(e)
	}
	g := groups(t, m, []int{3, 1})
	if l := g.List(); !same(l, [][]int{{3, 1}, {0}, {2}}) {
		t.Error(l)
	}
	if !g.Kept([]int{0, 3, 1, 2}) || g.Kept([]int{1, 3, 0, 2}) {
		t.Error("Kept")
	}
	if e := g.Gather(); e != api.OK || !slices.Equal(m.Order(), []int{0, 2, 3, 1}) {
		t.Error(e, m.Order())
	}
}

// some returns groups of some of the variables, some of which are empty.
func some(r *rand.Rand, vars int) (l [][]int) {
	for rest := r.Perm(vars); ; {
		many := r.Intn(4)
		if many > len(rest) || r.Intn(5) == 0 {
			return l
		}
		l = append(l, rest[:many])
		rest = rest[many:]
	}
}

// whole returns groups with one for each variable that is in none of them.
func whole(vars int, l [][]int) [][]int {
	all := slices.Clone(l)
	for v := range vars {
		if !slices.ContainsFunc(l, func(group []int) bool { return slices.Contains(group, v) }) {
			all = append(all, []int{v})
		}
	}
	return all
}

// kept reports whether an order is a concatenation of the groups.
func kept(order []int, all [][]int) bool {
	for len(order) > 0 {
		starts := func(group []int) bool {
			return len(group) > 0 && len(group) <= len(order) && slices.Equal(group, order[:len(group)])
		}
		i := slices.IndexFunc(all, starts)
		if i < 0 {
			return false
		}
		order = order[len(all[i]):]
	}
	return true
}

func TestListAndKept(t *testing.T) {
	r := rand.New(rand.NewSource(24))
	for range 300 {
		vars := r.Intn(6)
		m, e := dd.New(vars, 9)
		if e != api.OK {
			t.Fatal(e)
		}
		l := some(r, vars)
		given := slices.Clone(l)
		g := groups(t, m, l...)
		all := whole(vars, l)
		if got := g.List(); !same(got, all) || !same(l, given) {
			t.Fatal(got, all)
		}
		for _, order := range trial.Arrangements(perm.Ident(vars)) {
			if g.Kept(order) != kept(order, all) {
				t.Fatal(order, all)
			}
		}
		for _, order := range trial.Arrangements(all) {
			if o := slices.Concat(order...); !g.Kept(o) {
				t.Fatal(o, all)
			}
		}
	}
}

func TestKeptOfWhatIsNoOrder(t *testing.T) {
	m, e := dd.New(3, 9)
	if e != api.OK {
		t.Fatal(e)
	}
	for _, g := range []*group.Groups{groups(t, m), groups(t, m, []int{1, 0}), groups(t, m, nil, []int{2})} {
		for _, bad := range [][]int{nil, {0}, {1, 0}, {1, 0, 0}, {1, 0, 2, 3}, {1, 0, 3}, {2, 1, -1}, {1, 0, math.MaxInt}, {math.MinInt, 1, 0}} {
			if g.Kept(bad) {
				t.Error(bad)
			}
		}
		if !g.Kept([]int{2, 1, 0}) {
			t.Error(g.List())
		}
	}
	none, e := dd.New(0, 9)
	if g := groups(t, none); e != api.OK || !g.Kept(nil) || g.Kept([]int{0}) || len(g.List()) != 0 || g.Gather() != api.OK {
		t.Error("no variables")
	}
}

// Neither what New was given nor what List returns is memory of the groups, and no group has room to grow.
func TestMemory(t *testing.T) {
	m, e := dd.New(5, 9)
	if e != api.OK {
		t.Fatal(e)
	}
	l := [][]int{{3, 1}, {}, {2, 0}}
	longer := append(slices.Clone(l), []int{8})
	g := groups(t, m, longer[:3]...)
	if len(longer[3]) != 1 || longer[3][0] != 8 {
		t.Error("what is behind the argument has changed")
	}
	want := [][]int{{3, 1}, {}, {2, 0}, {4}}
	l[0][0], longer[2] = 9, []int{7}
	got := g.List()
	if !same(got, want) {
		t.Fatal(got)
	}
	for i, one := range got {
		if cap(one) != len(one) {
			t.Error(one, cap(one))
		}
		_ = append(one, 8)
		if !same(got, want) {
			t.Fatal(got)
		}
		got[i] = slices.Clone(one)
		for k := range one {
			one[k] = 9
		}
		if again := g.List(); !same(got, want) || !same(again, want) {
			t.Fatal(got, again)
		}
	}
}

// gathered returns the order that Gather is to establish.
func gathered(order []int, all [][]int) (l []int) {
	for _, v := range order {
		for _, group := range all {
			if len(group) > 0 && group[0] == v {
				l = append(l, group...)
			}
		}
	}
	return l
}

func TestGather(t *testing.T) {
	r := rand.New(rand.NewSource(25))
	for range 300 {
		vars := r.Intn(7)
		w := trial.New(t, r, vars, trial.Enough(vars, 4))
		values := w.Some()
		f := w.Handle(values)
		l := some(r, vars)
		g := groups(t, w.M, l...)
		w.Disturb()
		want := gathered(w.M.Order(), whole(vars, l))
		for range 2 {
			if e := g.Gather(); e != api.OK || !slices.Equal(w.M.Order(), want) || !g.Kept(want) {
				t.Fatal(e, w.M.Order(), want)
			}
		}
		w.Keeps([]uint64{values}, []int{f})
		if !same(g.List(), whole(vars, l)) {
			t.Fatal(g.List(), l)
		}
	}
}

// sifts checks Sift after Gather.
func sifts(t *testing.T, w *trial.World, g *group.Groups, grow int, tables []uint64, l ...int) {
	t.Helper()
	if e := g.Gather(); e != api.OK {
		t.Fatal(e)
	}
	before, e := supp.Size(w.M, l...)
	given, list := slices.Clone(l), g.List()
	size, e2 := g.Sift(grow, l...)
	if e != api.OK || e2 != api.OK || size > before || size != trial.Size(w.M.Order(), w.Spread(tables...)...) {
		t.Fatal(size, before, e, e2)
	}
	if !g.Kept(w.M.Order()) || !slices.Equal(l, given) || !same(g.List(), list) {
		t.Fatal(w.M.Order(), g.List())
	}
}

var grows = []int{math.MinInt, -1, 0, 1, 10, 20, 50, 100, 1000, 1001, math.MaxInt}

func TestSift(t *testing.T) {
	r := rand.New(rand.NewSource(26))
	for range 300 {
		vars := r.Intn(7)
		w := trial.New(t, r, vars, trial.Enough(vars, 4))
		tables := []uint64{w.Some(), w.Some()}
		handles := []int{w.Handle(tables[0]), w.Handle(tables[1])}
		g := groups(t, w.M, some(r, vars)...)
		for range 3 {
			w.Disturb()
			many := r.Intn(3)
			sifts(t, w, g, grows[r.Intn(len(grows))], tables[:many], slices.Concat(handles[:many], []int{0}, handles[:many])...)
			w.Keeps(tables, handles)
		}
	}
}

// With one group to move, Sift finds the best position among those that it may come to.
func TestTheBestPosition(t *testing.T) {
	r := rand.New(rand.NewSource(27))
	less := 0
	for range 300 {
		w := trial.New(t, r, 6, 20000)
		values := w.Some()
		f := w.Handle(values)
		reorder.To(w.M, r.Perm(6))
		order := w.M.Order()
		many := 2 + r.Intn(3)
		rest := slices.Clone(order[many:])
		g := groups(t, w.M, order[:many], rest)
		before := trial.Size(order, values)
		other := trial.Size(slices.Concat(rest, order[:many]), values)
		size, e := g.Sift(1000, f)
		if size != min(before, other) || e != api.OK {
			t.Fatal(size, before, other, e)
		}
		if other < before {
			less++
		}
	}
	if less < 50 {
		t.Error(less)
	}
}

// A direction is left where the size is more than so many percent above the least one, and not where it is equal to that.
func TestGrow(t *testing.T) {
	// As variable 0 moves down from the first level, the function has 8, 8, 10, 8, 8 and 7 nodes. The other variables are one group, which has to be passed at once, and then two.
	const values = 0x9eaa9eaaad99ad99
	for _, x := range []struct {
		grow, want int
		l          [][]int
	}{
		{0, 7, [][]int{{0}, {1, 2, 3, 4, 5}}},
		{24, 8, [][]int{{0}, {1, 2}, {3, 4, 5}, nil}},
		{25, 7, [][]int{{0}, {1, 2}, {3, 4, 5}, nil}},
		{-1, 8, [][]int{nil, {1, 2}, {3, 4, 5}}},
		{math.MaxInt, 7, [][]int{nil, {1, 2}, {0}, {3, 4, 5}}},
	} {
		w := trial.New(t, nil, 6, 5000)
		f := w.Handle(values)
		size, e := groups(t, w.M, x.l...).Sift(x.grow, f)
		if size != x.want || e != api.OK || trial.Size(w.M.Order(), values) != size {
			t.Error(x, size, e)
		}
	}
}

// Where swaps are refused, Gather and Sift leave the functions as they were.
func TestLittleRoom(t *testing.T) {
	r := rand.New(rand.NewSource(28))
	failed, failed2, done := 0, 0, 0
	for range 2000 {
		w, tables, handles := trial.Tight(t, r, 5+r.Intn(4))
		for range r.Intn(4) {
			w.M.Swap(r.Intn(4))
		}
		g := groups(t, w.M, some(r, 5)...)
		if e := g.Gather(); e == api.ErrRoom {
			failed++
		} else if e != api.OK || !g.Kept(w.M.Order()) {
			t.Fatal(e)
		}
		gathers := g.Kept(w.M.Order())
		before, _ := supp.Size(w.M, handles[:]...)
		size, e := g.Sift(50, handles[:]...)
		switch {
		case e == api.ErrRoom && size == 0:
			failed2++
		case e != api.OK || gathers && size > before || size != trial.Size(w.M.Order(), w.Spread(tables[:]...)...) || !g.Kept(w.M.Order()):
			t.Fatal(size, before, e)
		default:
			done++
		}
		if gathers && e != api.OK {
			t.Fatal("Sift has failed although nothing was to be gathered")
		}
		w.Keeps(tables[:], handles[:])
		if !perm.Right(w.M.Order()) {
			t.Fatal(w.M.Order())
		}
	}
	if failed < 20 || failed2 < 20 || done < 100 {
		t.Error(failed, failed2, done)
	}
}

func TestManyVariables(t *testing.T) {
	m, e := dd.New(64, 50000)
	if e != api.OK {
		t.Fatal(e)
	}
	w := &trial.World{T: t, M: m}
	pairs := 0
	var l [][]int
	for v := range 8 {
		both := w.Right(m.Ite(w.Right(m.Var(v)), w.Right(m.Var(63-v)), 0))
		pairs = w.Right(m.Ite(both, 1, pairs))
		l = append(l, []int{v, 8 + v}, []int{63 - v, 16 + v})
	}
	g := groups(t, m, l...)
	size, e := g.Sift(1000, pairs)
	if size != 16 || e != api.OK || !g.Kept(m.Order()) {
		t.Error(size, e, m.Order())
	}
}

func TestWrongArguments(t *testing.T) {
	w := trial.New(t, nil, 5, 200)
	f := w.Handle(0x13579bdf)
	gone := w.Handle(1)
	w.M.Drop(gone)
	for _, x := range []struct {
		m    *dd.Man
		l    [][]int
		want api.Errno
	}{
		{nil, nil, api.ErrNone},
		{nil, [][]int{{9, 9}}, api.ErrNone},
		{w.M, [][]int{{5}}, api.ErrVar},
		{w.M, [][]int{{-1}}, api.ErrVar},
		{w.M, [][]int{{0, 0}, {1, math.MaxInt}}, api.ErrVar},
		{w.M, [][]int{{0}, {1, 0}, {math.MinInt}}, api.ErrVar},
		{w.M, [][]int{{1, 2, 1}}, api.ErrTwice},
		{w.M, [][]int{{4}, nil, {3, 4}}, api.ErrTwice},
	} {
		if g, e := group.New(x.m, x.l...); g != nil || e != x.want {
			t.Errorf("%v: %d; want %d", x.l, e, x.want)
		}
	}
	g := groups(t, w.M, []int{4, 0})
	for _, bad := range []int{gone, -1, 99, math.MinInt, math.MaxInt} {
		if size, e := g.Sift(50, f, bad); size != 0 || e != api.ErrHandle {
			t.Error(bad, size, e)
		}
	}
	if o := w.M.Order(); !slices.Equal(o, perm.Ident(5)) {
		t.Error(o)
	}
	var none *group.Groups
	size, e := none.Sift(50, 99)
	if len(none.List()) != 0 || none.Kept(nil) || none.Kept([]int{0}) || none.Gather() != api.ErrNone || size != 0 || e != api.ErrNone {
		t.Error("no groups")
	}
}
