package reorder_test

import (
	"math"
	"math/rand"
	"slices"
	"testing"

	"voussoir/api"
	"voussoir/dd"
	"voussoir/perm"
	"voussoir/reorder"
	"voussoir/supp"
	"voussoir/trial"
)

// ordered checks that a call has ended with that error and left that order.
func ordered(w *trial.World, about string, want []int, err api.Errno) func(e api.Errno) {
	return func(e api.Errno) {
		w.T.Helper()
		if e != err || !slices.Equal(w.M.Order(), want) {
			w.T.Fatalf("%s: %d, %v; want %d, %v", about, e, w.M.Order(), err, want)
		}
	}
}

// only returns the error beside a size, which has to be 0.
func only(w *trial.World) func(size int, e api.Errno) api.Errno {
	return func(size int, e api.Errno) api.Errno {
		w.T.Helper()
		if size != 0 {
			w.T.Fatalf("size %d beside error %d", size, e)
		}
		return e
	}
}

func TestTheExample(t *testing.T) {
	w := trial.New(t, nil, 4, 100)
	x := w.Variable
	f := w.Handle(x(0)&x(1) | x(2)&^x(0))
	ordered(w, "To", []int{1, 2, 0, 3}, api.OK)(reorder.To(w.M, []int{1, 2, 0, 3}))
	if n, _ := supp.Size(w.M, f); n != 4 {
		t.Error(n)
	}
	n, e := reorder.Window(w.M, 0, 3, f)
	if n != 3 {
		t.Error(n)
	}
	ordered(w, "Window", []int{0, 1, 2, 3}, api.OK)(e)
	ordered(w, "Move", []int{0, 1, 2, 3}, api.ErrRange)(reorder.Move(w.M, 0, 4))
}

// best returns the order that Window is to leave, and the size in it.
func best(order []int, level, wide int, tables ...uint64) (least []int, n int) {
	for _, row := range trial.Arrangements(order[level : level+wide]) {
		tried := slices.Concat(order[:level], row, order[level+wide:])
		k := trial.Size(tried, tables...)
		if least == nil || k < n || k == n && slices.Compare(tried, least) < 0 {
			least, n = tried, k
		}
	}
	return least, n
}

func TestRandomOrders(t *testing.T) {
	r := rand.New(rand.NewSource(22))
	for range 200 {
		vars := r.Intn(7)
		w := trial.New(t, r, vars, trial.Enough(vars, 4))
		a, b := w.Some(), w.Some()
		f, g := w.Handle(a), w.Handle(b)
		for range 20 {
			w.Disturb()
			order := r.Perm(vars)
			before := w.M.Order()
			given := slices.Clone(order)
			ordered(w, "To", order, api.OK)(reorder.To(w.M, order))
			ordered(w, "To back", before, api.OK)(reorder.To(w.M, before))
			ordered(w, "Turn", perm.Turn(before), api.OK)(reorder.Turn(w.M))
			ordered(w, "Turn back", before, api.OK)(reorder.Turn(w.M))
			if vars > 0 {
				from, to := r.Intn(vars), r.Intn(vars)
				want := slices.Insert(slices.Delete(slices.Clone(before), from, from+1), to, before[from])
				ordered(w, "Move", want, api.OK)(reorder.Move(w.M, from, to))
			}
			if w.Table(f) != a || w.Table(g) != b || w.M.Handles() != 4 || !slices.Equal(order, given) {
				t.Fatal("a function or the argument has changed")
			}
		}
	}
}

func TestRandomWindows(t *testing.T) {
	r := rand.New(rand.NewSource(23))
	for range 150 {
		vars := 1 + r.Intn(6)
		w := trial.New(t, r, vars, trial.Enough(vars, 5))
		a, b, c := w.Some(), w.Some(), w.Some()
		f, g := w.Handle(a), w.Handle(b)
		w.Handle(c)
		for range 5 {
			w.Disturb()
			wide := 1 + r.Intn(min(vars, 4))
			level := r.Intn(vars - wide + 1)
			l, tables := []int{f, g, 1, f}, w.Spread(a, b)
			if r.Intn(3) == 0 {
				l, tables = l[:1], tables[:1]
			}
			given := slices.Clone(l)
			want, n := best(w.M.Order(), level, wide, tables...)
			for range 2 { // the second time nothing is to be done
				got, e := reorder.Window(w.M, level, wide, l...)
				ordered(w, "Window", want, api.OK)(e)
				if now, _ := supp.Size(w.M, l...); got != n || now != n {
					t.Fatalf("Window: %d, and the size is %d; want %d", got, now, n)
				}
			}
			if w.Table(f) != a || w.Table(g) != b || w.M.Handles() != 5 || !slices.Equal(l, given) {
				t.Fatal("a function or the argument has changed")
			}
		}
	}
}

// Where all orders are equally good, the first one is left.
func TestTheFirstOfTheBest(t *testing.T) {
	w := trial.New(t, nil, 6, 500)
	f := w.Handle(w.Variable(0) ^ w.Variable(1) ^ w.Variable(2) ^ w.Variable(3) ^ w.Variable(4) ^ w.Variable(5))
	for _, x := range []struct {
		level, wide int
		want        []int
	}{
		{0, 1, []int{5, 4, 3, 2, 1, 0}},
		{0, 2, []int{4, 5, 3, 2, 1, 0}},
		{2, 3, []int{5, 4, 1, 2, 3, 0}},
		{2, 4, []int{5, 4, 0, 1, 2, 3}},
		{0, 4, []int{2, 3, 4, 5, 1, 0}},
		{5, 1, []int{5, 4, 3, 2, 1, 0}},
	} {
		for _, l := range [][]int{{f}, {}, {0, 1}} {
			reorder.To(w.M, []int{5, 4, 3, 2, 1, 0})
			n, e := reorder.Window(w.M, x.level, x.wide, l...)
			ordered(w, "Window", x.want, api.OK)(e)
			if want, _ := supp.Size(w.M, l...); n != want {
				t.Error(x, n)
			}
		}
	}
}

func TestWrongArguments(t *testing.T) {
	w := trial.New(t, nil, 5, 200)
	f := w.Handle(0x13579bdf)
	gone := w.Handle(1)
	w.M.Drop(gone)
	order := []int{3, 1, 4, 0, 2}
	reorder.To(w.M, order)
	for _, bad := range [][]int{nil, {0, 1, 2, 3}, {0, 1, 2, 3, 4, 5}, {0, 1, 2, 3, 3}, {0, 1, 2, 3, 5}, {-1, 0, 1, 2, 3}, {0, 1, 2, 3, math.MaxInt}} {
		ordered(w, "To", order, api.ErrArg)(reorder.To(w.M, bad))
	}
	for _, bad := range []int{-1, 5, 99, math.MinInt, math.MaxInt} {
		ordered(w, "Move", order, api.ErrRange)(reorder.Move(w.M, bad, 0))
		ordered(w, "Move", order, api.ErrRange)(reorder.Move(w.M, 4, bad))
		ordered(w, "Window", order, api.ErrRange)(only(w)(reorder.Window(w.M, bad, 1, f)))
		ordered(w, "Window", order, api.ErrRange)(only(w)(reorder.Window(w.M, 0, bad, f)))
	}
	for _, bad := range [][2]int{{2, 4}, {3, 3}, {4, 2}, {5, 1}, {0, 0}, {5, 0}, {-1, 2}, {math.MaxInt, 4}, {math.MinInt, 4}, {2, math.MaxInt}} {
		ordered(w, "Window", order, api.ErrRange)(only(w)(reorder.Window(w.M, bad[0], bad[1])))
	}
	for _, bad := range []int{gone, -1, 99, math.MinInt, math.MaxInt} {
		ordered(w, "Window", order, api.ErrHandle)(only(w)(reorder.Window(w.M, 0, 2, bad)))
		ordered(w, "Window", order, api.ErrHandle)(only(w)(reorder.Window(w.M, 9, 9, f, 0, bad)))
	}
	for _, e := range []api.Errno{reorder.To(nil, nil), reorder.To(nil, []int{7}), reorder.Turn(nil), reorder.Move(nil, 0, 0), reorder.Move(nil, -1, 9), only(w)(reorder.Window(nil, 0, 1)), only(w)(reorder.Window(nil, -1, 9, 9))} {
		if e != api.ErrNone {
			t.Error("no manager:", e)
		}
	}
}

func TestFewVariables(t *testing.T) {
	w := trial.New(t, nil, 0, 1)
	ordered(w, "To", nil, api.OK)(reorder.To(w.M, nil))
	ordered(w, "Turn", nil, api.OK)(reorder.Turn(w.M))
	ordered(w, "Move", nil, api.ErrRange)(reorder.Move(w.M, 0, 0))
	ordered(w, "Window", nil, api.ErrRange)(only(w)(reorder.Window(w.M, 0, 1)))
	w = trial.New(t, nil, 1, 1)
	ordered(w, "To", []int{0}, api.OK)(reorder.To(w.M, []int{0}))
	ordered(w, "Move", []int{0}, api.OK)(reorder.Move(w.M, 0, 0))
	if n, e := reorder.Window(w.M, 0, 1, w.Handle(0b10)); n != 1 || e != api.OK {
		t.Error(n, e)
	}
}

// Where a swap finds no room, the order is any, but the functions are what they were.
func TestLittleRoom(t *testing.T) {
	r := rand.New(rand.NewSource(24))
	failed, done := 0, 0
	for range 2000 {
		w, tables, handles := trial.Tight(t, r, 5+r.Intn(9))
		for _, call := range []func() api.Errno{
			func() api.Errno { return reorder.To(w.M, r.Perm(5)) },
			func() api.Errno { return reorder.Turn(w.M) },
			func() api.Errno { return reorder.Move(w.M, r.Intn(5), r.Intn(5)) },
			func() api.Errno {
				level, wide := r.Intn(2), 2+r.Intn(3)
				order, size := best(w.M.Order(), level, wide, w.Spread(tables[:]...)...)
				n, e := reorder.Window(w.M, level, wide, handles[:]...)
				if e == api.OK && (n != size || !slices.Equal(w.M.Order(), order)) || e != api.OK && n != 0 {
					t.Fatal(n, size, e)
				}
				return e
			},
		} {
			switch e := call(); e {
			case api.OK:
				done++
			case api.ErrRoom:
				failed++
			default:
				t.Fatal(e)
			}
			w.Keeps(tables[:], handles[:])
			if !perm.Right(w.M.Order()) {
				t.Fatal(w.M.Order())
			}
		}
	}
	if failed < 20 || done < 100 {
		t.Errorf("%d calls have failed, and %d have not", failed, done)
	}
}

func TestManyVariables(t *testing.T) {
	m, e := dd.New(64, 50000)
	if e != api.OK {
		t.Fatal(e)
	}
	w := &trial.World{T: t, M: m}
	pairs, apart := 0, make([]int, 0, 64)
	for v := range 8 {
		both := w.Right(m.Ite(w.Right(m.Var(v)), w.Right(m.Var(63-v)), 0))
		pairs = w.Right(m.Ite(both, 1, pairs))
		apart = append(apart, v, 63-v)
	}
	for v := 8; v < 56; v++ {
		apart = append(apart, v)
	}
	if n, _ := supp.Size(m, pairs); n != 510 {
		t.Error(n)
	}
	ordered(w, "To", apart, api.OK)(reorder.To(m, apart))
	if n, _ := supp.Size(m, pairs); n != 16 {
		t.Error(n)
	}
	ordered(w, "Turn", perm.Turn(apart), api.OK)(reorder.Turn(m))
	ordered(w, "Move", perm.Move(perm.Turn(apart), 63, 0), api.OK)(reorder.Move(m, 63, 0))
	ordered(w, "To", perm.Ident(64), api.OK)(reorder.To(m, perm.Ident(64)))
	if n, _ := supp.Size(m, pairs); n != 510 {
		t.Error(n)
	}
}
