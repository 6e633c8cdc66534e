package supp_test

import (
	"math"
	"math/rand"
	"slices"
	"testing"

	"voussoir/api"
	"voussoir/dd"
	"voussoir/supp"
	"voussoir/trial"
)

// support returns the variables on which a function depends.
func support(w *trial.World, values uint64) (vars []int) {
	for v := range w.M.Vars() {
		if trial.Depends(values, v) {
			vars = append(vars, v)
		}
	}
	return vars
}

// levels returns how many nodes the functions have at each level: as many as there are functions that depend on its variable among those obtained by fixing the variables above, where a function and its negation count once.
func levels(w *trial.World, tables ...uint64) (l []int) {
	for _, v := range w.M.Order() {
		met := map[uint64]bool{}
		var next []uint64
		for _, values := range tables {
			if trial.Depends(values, v) {
				met[min(values, ^values&w.All())] = true
			}
			next = append(next, trial.Cofactor(values, v, 0), trial.Cofactor(values, v, 1))
		}
		slices.Sort(next)
		tables = slices.Compact(next)
		l = append(l, len(met))
	}
	return l
}

// signs returns the variables that only change a function upwards, and those that only change it downwards.
func signs(w *trial.World, values uint64) (rising, falling []int) {
	for _, v := range support(w, values) {
		lo, hi := trial.Cofactor(values, v, 0), trial.Cofactor(values, v, 1)
		if lo&^hi == 0 {
			rising = append(rising, v)
		}
		if hi&^lo == 0 {
			falling = append(falling, v)
		}
	}
	return rising, falling
}

// tells checks what is told of functions with these tables, one by one and together.
func tells(w *trial.World, handles []int, tables []uint64) {
	w.T.Helper()
	many, waits, order := w.M.Handles(), w.M.Waits(), w.M.Order()
	check := func(about string, got, want []int, e api.Errno) {
		w.T.Helper()
		if !slices.Equal(got, want) || e != api.OK {
			w.T.Fatalf("%s of %x in order %v: %v, %d; want %v", about, tables, w.M.Order(), got, e, want)
		}
	}
	for i, values := range tables {
		vars, e := supp.Support(w.M, handles[i])
		check("Support", vars, support(w, values), e)
		for v := range w.M.Vars() {
			w.Asks("Depends", trial.Depends(values, v))(supp.Depends(w.M, handles[i], v))
		}
		rising, falling, e := supp.Signs(w.M, handles[i])
		up, down := signs(w, values)
		check("Signs", rising, up, e)
		check("Signs", falling, down, e)
	}
	want := levels(w, tables...)
	n, e := supp.Levels(w.M, handles...)
	check("Levels", n, want, e)
	size := 0
	for _, n := range want {
		size += n
	}
	k, e := supp.Size(w.M, handles...)
	check("Size", []int{k}, []int{size}, e)
	if w.M.Handles() != many || w.M.Waits() != waits || !slices.Equal(w.M.Order(), order) {
		w.T.Fatal("the manager has changed")
	}
}

func TestTheExample(t *testing.T) {
	w := trial.New(t, nil, 2, 100)
	and := w.Handle(0b1000)
	not := w.Handle(0b0111)
	if l, e := supp.Support(w.M, and); !slices.Equal(l, []int{0, 1}) || e != api.OK {
		t.Error(l, e)
	}
	if l, e := supp.Levels(w.M, and); !slices.Equal(l, []int{1, 1}) || e != api.OK {
		t.Error(l, e)
	}
	if rising, falling, e := supp.Signs(w.M, and); !slices.Equal(rising, []int{0, 1}) || len(falling) != 0 || e != api.OK {
		t.Error(rising, falling, e)
	}
	for _, x := range []struct {
		l    []int
		want int
	}{{[]int{and}, 2}, {[]int{not}, 2}, {[]int{and, not}, 2}, {[]int{1}, 0}, {[]int{0, 1, 0}, 0}, {nil, 0}, {[]int{0, and, 1}, 2}} {
		if n, e := supp.Size(w.M, x.l...); n != x.want || e != api.OK {
			t.Error(x, n, e)
		}
	}
}

// The function of the document's second example has 6 nodes in one order and 14 in another one.
func TestSizeInTwoOrders(t *testing.T) {
	w := trial.New(t, nil, 6, 5000)
	f := w.Handle(w.Variable(0)&w.Variable(1) | w.Variable(2)&w.Variable(3) | w.Variable(4)&w.Variable(5))
	if n, e := supp.Size(w.M, f); n != 6 || e != api.OK {
		t.Error(n, e)
	}
	for _, level := range []int{1, 3, 2} { // 0 2 1 3 4 5, 0 2 1 4 3 5, 0 2 4 1 3 5
		w.M.Swap(level)
	}
	if n, e := supp.Size(w.M, f); n != 14 || e != api.OK {
		t.Error(n, e, w.M.Order())
	}
	if l, e := supp.Levels(w.M, f); !slices.Equal(l, []int{1, 2, 4, 4, 2, 1}) || e != api.OK {
		t.Error(l, e)
	}
}

func TestAllFunctionsOfThreeVariables(t *testing.T) {
	w := trial.New(t, nil, 3, 2000)
	var handles []int
	for values := range uint64(256) {
		handles = append(handles, w.Handle(values))
	}
	for level := range 4 {
		for values := range uint64(256) {
			tells(w, handles[values:values+1], []uint64{values})
		}
		w.M.Swap(level % 2)
	}
}

func TestRandomFunctions(t *testing.T) {
	r := rand.New(rand.NewSource(18))
	for range 300 {
		vars := r.Intn(7)
		w := trial.New(t, r, vars, trial.Enough(vars, 7))
		for range 10 {
			var handles []int
			var tables []uint64
			for range r.Intn(4) {
				values := w.Some()
				for v := range vars { // make some of them monotone
					switch lo, hi := trial.Cofactor(values, v, 0), trial.Cofactor(values, v, 1); r.Intn(5) {
					case 0:
						values |= lo & w.Variable(v)
					case 1:
						values |= hi &^ w.Variable(v)
					}
				}
				tables = append(tables, values)
				handles = append(handles, w.Handle(values))
			}
			before := slices.Clone(handles)
			w.Disturb()
			tells(w, handles, tables)
			if len(tables) > 0 {
				not := w.Right(w.M.Not(handles[0]))
				tells(w, []int{not}, []uint64{^tables[0] & w.All()})
				tells(w, append(handles[:1:1], not), append(tables[:1:1], ^tables[0]&w.All()))
			}
			if !slices.Equal(handles, before) {
				t.Fatal("the argument has changed")
			}
			w.DropAll()
		}
	}
}

// What is told takes no room.
func TestNoRoom(t *testing.T) {
	r := rand.New(rand.NewSource(19))
	for range 200 {
		w := trial.New(t, r, 5, 100)
		tables := []uint64{w.Some(), w.Some(), w.Some()}
		handles := []int{w.Handle(tables[0]), w.Handle(tables[1]), w.Handle(tables[2])}
		e := api.OK
		for e == api.OK { // no handle is dropped, so their numbers have no gaps
			last := w.M.Handles() - 1
			_, e = w.M.Ite(r.Intn(last), r.Intn(last), last)
			if e == api.OK {
				_, e = w.M.Var(r.Intn(5))
			}
		}
		if e != api.ErrRoom {
			t.Fatal(e)
		}
		tells(w, handles, tables)
	}
}

func TestWrongArguments(t *testing.T) {
	w := trial.New(t, nil, 3, 100)
	f := w.Handle(0x5c)
	gone := w.Handle(1)
	w.M.Drop(gone)
	number := func(n int, e api.Errno) (int, api.Errno) { return n, e }
	list := func(l []int, e api.Errno) (int, api.Errno) { return len(l), e }
	truth := func(yes bool, e api.Errno) (int, api.Errno) {
		if yes {
			return 1, e
		}
		return 0, e
	}
	lists := func(a, b []int, e api.Errno) (int, api.Errno) { return len(a) + len(b), e }
	for _, bad := range []int{gone, -1, 99, math.MinInt, math.MaxInt} {
		w.Fails("Support", api.ErrHandle)(list(supp.Support(w.M, bad)))
		w.Fails("Depends", api.ErrHandle)(truth(supp.Depends(w.M, bad, 0)))
		w.Fails("Depends", api.ErrHandle)(truth(supp.Depends(w.M, bad, 3)))
		w.Fails("Size", api.ErrHandle)(number(supp.Size(w.M, bad)))
		w.Fails("Size", api.ErrHandle)(number(supp.Size(w.M, f, 0, bad, f)))
		w.Fails("Levels", api.ErrHandle)(list(supp.Levels(w.M, bad)))
		w.Fails("Levels", api.ErrHandle)(list(supp.Levels(w.M, f, bad)))
		w.Fails("Signs", api.ErrHandle)(lists(supp.Signs(w.M, bad)))
	}
	for _, bad := range []int{-1, 3, 99, math.MinInt, math.MaxInt} {
		w.Fails("Depends", api.ErrVar)(truth(supp.Depends(w.M, f, bad)))
		w.Fails("Depends", api.ErrVar)(truth(supp.Depends(w.M, 1, bad)))
	}
	w.Fails("Support", api.ErrNone)(list(supp.Support(nil, 9)))
	w.Fails("Depends", api.ErrNone)(truth(supp.Depends(nil, 9, 9)))
	w.Fails("Size", api.ErrNone)(number(supp.Size(nil, 9)))
	w.Fails("Size", api.ErrNone)(number(supp.Size(nil)))
	w.Fails("Levels", api.ErrNone)(list(supp.Levels(nil)))
	w.Fails("Signs", api.ErrNone)(lists(supp.Signs(nil, 0)))
}

// With 64 variables nothing must go through all assignments, or all paths.
func TestManyVariables(t *testing.T) {
	m, e := dd.New(64, 50000)
	if e != api.OK {
		t.Fatal(e)
	}
	w := &trial.World{T: t, M: m}
	parity, and, chain := 0, 1, 0
	var all []int
	for v := range 64 {
		all = append(all, v)
		x := w.Right(m.Var(63 - v))
		not := w.Right(m.Not(parity))
		parity = w.Right(m.Ite(x, not, parity))
		and = w.Right(m.Ite(and, x, 0))
		if v%2 == 0 { // or not x, and x in turn
			chain = w.Right(m.Ite(x, chain, 1))
		} else {
			chain = w.Right(m.Ite(x, chain, 0))
		}
	}
	for _, h := range []int{parity, and, chain} {
		if l, e := supp.Support(m, h); !slices.Equal(l, all) || e != api.OK {
			t.Error(l, e)
		}
		if n, e := supp.Size(m, h); n != 64 || e != api.OK {
			t.Error(n, e)
		}
	}
	if rising, falling, e := supp.Signs(m, parity); len(rising) != 0 || len(falling) != 0 || e != api.OK {
		t.Error(rising, falling, e)
	}
	if rising, falling, e := supp.Signs(m, and); !slices.Equal(rising, all) || len(falling) != 0 || e != api.OK {
		t.Error(rising, falling, e)
	}
	rising, falling, e := supp.Signs(m, chain)
	if len(rising) != 32 || len(falling) != 32 || rising[0] != 0 || falling[0] != 1 || e != api.OK {
		t.Error(rising, falling, e)
	}
}
