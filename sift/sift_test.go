package sift_test

import (
	"math"
	"math/rand"
	"slices"
	"testing"

	"voussoir/api"
	"voussoir/dd"
	"voussoir/perm"
	"voussoir/reorder"
	"voussoir/sift"
	"voussoir/supp"
	"voussoir/trial"
)

// sized returns a check that a call has answered that size.
func sized(t trial.Test, about string, want int) func(size int, e api.Errno) {
	return func(size int, e api.Errno) {
		t.Helper()
		if size != want || e != api.OK {
			t.Fatalf("%s: %d, %d; want %d", about, size, e, want)
		}
	}
}

// fails returns a check that a call has failed with that error.
func fails(t trial.Test, about string, want api.Errno) func(size int, e api.Errno) {
	return func(size int, e api.Errno) {
		t.Helper()
		if size != 0 || e != want {
			t.Errorf("%s: %d, %d; want %d", about, size, e, want)
		}
	}
}

func TestTheExample(t *testing.T) {
	w := trial.New(t, nil, 4, 100)
	x := w.Variable
	f := w.Handle(x(0)&x(2) | x(1)&x(3))
	sized(t, "Size", 6)(supp.Size(w.M, f))
	if n, e := sift.Var(w.M, 2, 200, f); n > 6 || e != api.OK {
		t.Error(n, e)
	}
	sized(t, "Best", 4)(sift.Best(w.M, f))
	if o := w.M.Order(); !slices.Equal(o, []int{0, 2, 1, 3}) {
		t.Error(o)
	}
}

// reached returns the sizes at the levels to which Var is to move variable v from that order.
func reached(order []int, v, grow int, tables ...uint64) (sizes []int) {
	from := slices.Index(order, v)
	sizeAt := func(to int) int { return trial.Size(perm.Move(order, from, to), tables...) }
	sizes = []int{sizeAt(from)}
	most := sizes[0] * min(max(grow, 100), 1000)
	for _, step := range []int{-1, 1} {
		for to := from + step; 0 <= to && to < len(order); to += step {
			sizes = append(sizes, sizeAt(to))
			if sizeAt(to)*100 > most {
				break
			}
		}
	}
	return sizes
}

// A direction is abandoned where the size is above the limit, and not where it is equal to it.
func TestGrow(t *testing.T) {
	// As variable 0 moves down from the first level, the function has 8, 8, 10, 8, 8 and 7 nodes.
	const values = 0x9eaa9eaaad99ad99
	for grow, want := range map[int]int{math.MinInt: 8, -1: 8, 0: 8, 99: 8, 100: 8, 124: 8, 125: 7, 126: 7, 1000: 7, 1001: 7, math.MaxInt: 7} {
		w := trial.New(t, nil, 6, 5000)
		f := w.Handle(values)
		sized(t, "Var", want)(sift.Var(w.M, 0, grow, f))
		order := []int{1, 2, 3, 4, 5, 0}
		if want == 8 {
			order = w.M.Order()
		}
		if now := w.M.Order(); !slices.Equal(now, order) || trial.Size(now, values) != want {
			t.Error(grow, now)
		}
	}
}

// without returns an order without a variable.
func without(order []int, v int) []int {
	return slices.DeleteFunc(slices.Clone(order), func(other int) bool { return other == v })
}

// some returns a limit for growth.
func some(r *rand.Rand) int {
	return []int{math.MinInt, 0, 99, 100, 101, 110, 120, 130, 150, 200, 300, 1000, 1001, math.MaxInt}[r.Intn(14)]
}

// world returns a world with two functions and one more, and their tables and handles.
func world(t *testing.T, r *rand.Rand) (w *trial.World, tables []uint64, handles []int) {
	vars := 1 + r.Intn(6)
	w = trial.New(t, r, vars, trial.Enough(vars, 5))
	for range 3 {
		tables = append(tables, w.Some())
		handles = append(handles, w.Handle(tables[len(tables)-1]))
	}
	return w, tables, handles
}

func TestVar(t *testing.T) {
	r := rand.New(rand.NewSource(23))
	less := 0
	for range 300 {
		w, tables, handles := world(t, r)
		for range 5 {
			w.Disturb()
			v, grow, order, many := r.Intn(w.M.Vars()), some(r), w.M.Order(), r.Intn(3)
			sizes := reached(order, v, grow, w.Spread(tables[:many]...)...)
			l := slices.Concat(handles[:many], []int{1}, handles[:many])
			given := slices.Clone(l)
			sized(t, "Var", slices.Min(sizes))(sift.Var(w.M, v, grow, l...))
			sized(t, "Size", slices.Min(sizes))(supp.Size(w.M, l...))
			w.Keeps(tables, handles)
			if !slices.Equal(without(w.M.Order(), v), without(order, v)) || !slices.Equal(l, given) {
				t.Fatal("other variables or the argument have changed")
			}
			if slices.Min(sizes) < sizes[0] {
				less++
			}
		}
	}
	if less < 100 {
		t.Errorf("only %d times the size was less", less)
	}
}

func TestSift(t *testing.T) {
	r := rand.New(rand.NewSource(24))
	for range 200 {
		w, tables, handles := world(t, r)
		for range 3 {
			w.Disturb()
			many, grow := r.Intn(4), some(r)
			l := handles[:many]
			before, e := supp.Size(w.M, l...)
			for range 3 {
				size, e2 := sift.Sift(w.M, grow, l...)
				if e != api.OK || e2 != api.OK || size > before || size != trial.Size(w.M.Order(), w.Spread(tables[:many]...)...) {
					t.Fatal(size, before, e, e2)
				}
				before = size
			}
			if many > 0 {
				best, e := sift.Best(w.M, l...)
				if e != api.OK || best > before {
					t.Fatal(best, before, e)
				}
			}
			w.Keeps(tables, handles)
		}
	}
}

// ranked returns the variables in the order in which Sift is to move them.
func ranked(t *testing.T, m *dd.Man, l ...int) (vars []int) {
	t.Helper()
	nodes, e := supp.Levels(m, l...)
	if e != api.OK {
		t.Fatal(e)
	}
	order := m.Order()
	for many := 1000; many >= 0; many-- {
		for v := range m.Vars() {
			if nodes[slices.Index(order, v)] == many {
				vars = append(vars, v)
			}
		}
	}
	return vars
}

// Sift is Var for each variable, those with most nodes first.
func TestTheOrderOfSift(t *testing.T) {
	r := rand.New(rand.NewSource(25))
	telling := 0
	for range 300 {
		w, twin, third := trial.New(t, r, 6, 20000), trial.New(t, r, 6, 20000), trial.New(t, r, 6, 20000)
		values, grow, order := w.Some(), some(r), r.Perm(6)
		var f int
		for _, each := range []*trial.World{w, twin, third} {
			f = each.Handle(values)
			reorder.To(each.M, order)
		}
		for _, v := range ranked(t, twin.M, f) {
			sift.Var(twin.M, v, grow, f)
		}
		for v := range 6 {
			sift.Var(third.M, v, grow, f)
		}
		want, _ := supp.Size(twin.M, f)
		sized(t, "Sift", want)(sift.Sift(w.M, grow, f))
		if !slices.Equal(w.M.Order(), twin.M.Order()) {
			t.Fatal(w.M.Order(), twin.M.Order())
		}
		if !slices.Equal(w.M.Order(), third.M.Order()) {
			telling++
		}
	}
	if telling < 50 {
		t.Errorf("only %d times it mattered in which order the variables were moved", telling)
	}
}

// best returns the order that Best is to establish, and the size in it.
func best(vars int, tables ...uint64) (order []int, size int) {
	for _, tried := range trial.Arrangements(perm.Ident(vars)) { // in lexicographic order
		n := trial.Size(tried, tables...)
		if order == nil || n < size {
			order, size = tried, n
		}
	}
	return order, size
}

func TestBest(t *testing.T) {
	r := rand.New(rand.NewSource(26))
	for range 60 {
		w, tables, handles := world(t, r)
		for many := range 3 {
			w.Disturb()
			order, size := best(w.M.Vars(), w.Spread(tables[:many]...)...)
			sized(t, "Best", size)(sift.Best(w.M, handles[:many]...))
			if !slices.Equal(w.M.Order(), order) {
				t.Fatal(w.M.Order(), order)
			}
			w.Keeps(tables, handles)
		}
	}
}

// Where swaps are refused, what is found is at least as good as what was there, and the functions are what they were.
func TestLittleRoom(t *testing.T) {
	r := rand.New(rand.NewSource(27))
	refused := 0
	for range 600 {
		w, tables, handles := trial.Tight(t, r, 5+r.Intn(4))
		for _, call := range []func() (int, api.Errno){
			func() (int, api.Errno) { return sift.Var(w.M, r.Intn(5), some(r), handles[:]...) },
			func() (int, api.Errno) { return sift.Sift(w.M, some(r), handles[:]...) },
			func() (int, api.Errno) { return sift.Best(w.M, handles[:]...) },
		} {
			for level := range 4 {
				if w.M.Swap(level) == api.ErrRoom {
					refused++
				}
			}
			before, _ := supp.Size(w.M, handles[:]...)
			size, e := call()
			if e != api.OK || size > before || size != trial.Size(w.M.Order(), w.Spread(tables[:]...)...) {
				t.Fatal(size, before, e)
			}
			w.Keeps(tables[:], handles[:])
		}
	}
	if refused < 100 {
		t.Errorf("only %d swaps were refused", refused)
	}
}

// Best finds all orders to which there is a way.
func TestBestInLittleRoom(t *testing.T) {
	r := rand.New(rand.NewSource(28))
	shut := 0
	for range 60 {
		w, tables, handles := trial.Tight(t, r, 5+r.Intn(3))
		first, room := w.M.Order(), w.M.Room()
		size, e := sift.Best(w.M, handles[:]...)
		if e != api.OK {
			t.Fatal(e)
		}
		for _, order := range trial.Arrangements(perm.Ident(5)) {
			other, e := dd.New(5, room)
			if e != api.OK {
				t.Fatal(e)
			}
			twin := &trial.World{T: t, R: r, M: other}
			for _, values := range tables {
				twin.Handle(values)
			}
			if !slices.Equal(other.Order(), first) {
				t.Fatal(first)
			}
			if reorder.To(other, order) != api.OK {
				shut++
				continue
			}
			n := trial.Size(order, w.Spread(tables[:]...)...)
			if n < size || n == size && slices.Compare(order, w.M.Order()) < 0 {
				t.Fatalf("%v: %d; %v: %d", w.M.Order(), size, order, n)
			}
		}
	}
	if shut < 20 {
		t.Errorf("only %d orders found no room", shut)
	}
}

func TestNoFunctions(t *testing.T) {
	for vars := range 8 {
		w := trial.New(t, nil, vars, 9)
		reorder.Turn(w.M)
		sized(t, "Sift", 0)(sift.Sift(w.M, 150))
		for v := range vars {
			sized(t, "Var", 0)(sift.Var(w.M, v, 150))
			sized(t, "Var", 0)(sift.Var(w.M, v, 150, 0, 1))
		}
		if vars > 6 {
			fails(t, "Best", api.ErrMany)(sift.Best(w.M))
			continue
		}
		sized(t, "Best", 0)(sift.Best(w.M))
		if o := w.M.Order(); !slices.Equal(o, perm.Ident(vars)) {
			t.Error(o)
		}
	}
}

func TestManyVariables(t *testing.T) {
	m, e := dd.New(64, 50000)
	if e != api.OK {
		t.Fatal(e)
	}
	w := &trial.World{T: t, M: m}
	pairs := 0
	for v := range 8 {
		both := w.Right(m.Ite(w.Right(m.Var(v)), w.Right(m.Var(63-v)), 0))
		pairs = w.Right(m.Ite(both, 1, pairs))
	}
	sized(t, "Size", 510)(supp.Size(m, pairs))
	sized(t, "Sift", 16)(sift.Sift(m, 1000, pairs))
	sized(t, "Size", 16)(supp.Size(m, pairs))
	fails(t, "Best", api.ErrMany)(sift.Best(m, pairs))
	for v := range 8 {
		if yes, e := m.Eval(pairs, pairOf(v, 63-v)); !yes || e != api.OK {
			t.Error(v, yes, e)
		}
		if yes, e := m.Eval(pairs, pairOf(v, (v+1)%8)); yes || e != api.OK {
			t.Error(v, yes, e)
		}
	}
}

// pairOf returns the assignment in which two variables are true.
func pairOf(v, w int) []bool {
	l := make([]bool, 64)
	l[v], l[w] = true, true
	return l
}

func TestWrongArguments(t *testing.T) {
	w := trial.New(t, nil, 5, 200)
	f := w.Handle(0x13579bdf)
	gone := w.Handle(1)
	w.M.Drop(gone)
	for _, bad := range []int{gone, -1, 99, math.MinInt, math.MaxInt} {
		fails(t, "Sift", api.ErrHandle)(sift.Sift(w.M, 150, bad))
		fails(t, "Sift", api.ErrHandle)(sift.Sift(w.M, 150, f, 0, bad))
		fails(t, "Var", api.ErrHandle)(sift.Var(w.M, 2, 150, bad))
		fails(t, "Var", api.ErrHandle)(sift.Var(w.M, 5, 150, 1, f, bad))
		fails(t, "Best", api.ErrHandle)(sift.Best(w.M, f, bad))
	}
	for _, bad := range []int{-1, 5, 99, math.MinInt, math.MaxInt} {
		fails(t, "Var", api.ErrVar)(sift.Var(w.M, bad, 150, f))
		fails(t, "Var", api.ErrVar)(sift.Var(w.M, bad, 150))
	}
	wide := trial.New(t, nil, 7, 200)
	fails(t, "Best", api.ErrHandle)(sift.Best(wide.M, 2))
	fails(t, "Best", api.ErrMany)(sift.Best(wide.M, 1))
	fails(t, "no manager", api.ErrNone)(sift.Sift(nil, 150, 9))
	fails(t, "no manager", api.ErrNone)(sift.Var(nil, 9, 150, 9))
	fails(t, "no manager", api.ErrNone)(sift.Best(nil, 9))
	if o := w.M.Order(); !slices.Equal(o, perm.Ident(5)) {
		t.Error(o)
	}
}
