package satp_test

import (
	"math"
	"math/rand"
	"slices"
	"testing"

	"voussoir/api"
	"voussoir/bits"
	"voussoir/cnt"
	"voussoir/dd"
	"voussoir/satc"
	"voussoir/satp"
	"voussoir/trial"
)

func small(n int) cnt.Nat { return cnt.Of(uint64(n)) }

// texts returns the bits of which each list consists.
func texts(l [][]bool) (s []string) {
	for _, row := range l {
		s = append(s, bits.Text(row))
	}
	return s
}

// picks returns a check that a call has picked the assignment with these bits.
func picks(t trial.Test, about, want string) func(l []bool, e api.Errno) {
	return func(l []bool, e api.Errno) {
		t.Helper()
		if bits.Text(l) != want || e != api.OK {
			t.Fatalf("%s: %s, %d; want %s", about, bits.Text(l), e, want)
		}
	}
}

// fails returns a check that a call has failed with that error, beside an empty list.
func fails[T any](t trial.Test, about string, want api.Errno) func(l []T, e api.Errno) {
	return func(l []T, e api.Errno) {
		t.Helper()
		if len(l) != 0 || e != want {
			t.Fatalf("%s: %v, %d; want %d", about, l, e, want)
		}
	}
}

// counts returns a check that a call has answered that number.
func counts(t trial.Test, about string, want cnt.Nat) func(n cnt.Nat, e api.Errno) {
	return func(n cnt.Nat, e api.Errno) {
		t.Helper()
		if !slices.Equal(n, want) || e != api.OK {
			t.Fatalf("%s: %v, %d; want %v", about, n, e, want)
		}
	}
}

func TestTheExample(t *testing.T) {
	w := trial.New(t, nil, 2, 100)
	f := w.Handle(w.Variable(0) | w.Variable(1))
	picks(t, "Least", "01")(satp.Least(w.M, f, 1, 0))
	picks(t, "At", "10")(satp.At(w.M, f, small(1), 1, 0))
	fails[bool](t, "At", api.ErrRange)(satp.At(w.M, f, small(3), 1, 0))
	counts(t, "Place", small(2))(satp.Place(w.M, f, []bool{true, true}, 1, 0))
}

// assignments returns all assignments of that many variables, the first one varying slowest.
func assignments(many int) (l [][]bool) {
	for code := range 1 << many {
		row := bits.Of(uint64(code), many)
		slices.Reverse(row)
		l = append(l, row)
	}
	return l
}

// holds returns the value of a function where vars have the values of row and all other variables are false.
func holds(values uint64, vars []int, row []bool) bool {
	place := 0
	for i, v := range vars {
		if row[i] {
			place |= 1 << v
		}
	}
	return values>>place&1 == 1
}

// tells checks all that is told about a function with that table and the assignments of vars.
func tells(w *trial.World, f int, values uint64, vars ...int) {
	w.T.Helper()
	handles, before := w.M.Handles(), slices.Clone(vars)
	var want []string
	for _, row := range assignments(len(vars)) {
		place := want
		if !holds(values, vars, row) {
			fails[uint32](w.T, "Place", api.ErrState)(satp.Place(w.M, f, row, vars...))
			continue
		}
		counts(w.T, "Place", small(len(place)))(satp.Place(w.M, f, row, vars...))
		picks(w.T, "At", bits.Text(row))(satp.At(w.M, f, small(len(place)), vars...))
		want = append(want, bits.Text(row))
	}
	fails[bool](w.T, "At", api.ErrRange)(satp.At(w.M, f, small(len(want)), vars...))
	fails[bool](w.T, "At", api.ErrRange)(satp.At(w.M, f, cnt.Shift(cnt.Of(1), 64), vars...))
	if len(want) == 0 {
		fails[bool](w.T, "Least", api.ErrEmpty)(satp.Least(w.M, f, vars...))
	} else {
		picks(w.T, "Least", want[0])(satp.Least(w.M, f, vars...))
	}
	for _, most := range []int{math.MinInt, -1, 0, 1, 2, len(want) - 1, len(want), len(want) + 1, math.MaxInt} {
		l, e := satp.All(w.M, f, most, vars...)
		if cut := want[:min(max(most, 0), len(want))]; e != api.OK || !slices.Equal(texts(l), cut) {
			w.T.Fatalf("All(%x, %d, %v): %v, %d; want %v", values, most, vars, texts(l), e, cut)
		}
	}
	if n, e := satc.Count(w.M, f, vars...); e != api.OK || !slices.Equal(n, small(len(want))) {
		w.T.Fatal(n, e, want)
	}
	if w.M.Handles() != handles || !slices.Equal(vars, before) {
		w.T.Fatal("the manager or an argument has changed")
	}
}

// leads checks what Any tells about a function with that table.
func leads(w *trial.World, f int, values uint64) {
	w.T.Helper()
	handles := w.M.Handles()
	l, e := satp.Any(w.M, f)
	if values == 0 {
		fails[api.Lit](w.T, "Any", api.ErrEmpty)(l, e)
		return
	}
	left := w.Spread(values)[0]
	for _, lit := range l {
		first := -1
		for _, v := range w.M.Order() {
			if first < 0 && trial.Depends(left, v) {
				first = v
			}
		}
		if lit.Var != first {
			w.T.Fatalf("Any(%x) in order %v: %v", values, w.M.Order(), l)
		}
		value := 0
		if lit.Yes {
			value = 1
		}
		left = trial.Cofactor(left, lit.Var, value)
	}
	if left != math.MaxUint64 || e != api.OK || w.M.Handles() != handles {
		w.T.Fatalf("Any(%x): %v, %d", values, l, e)
	}
}

// needed returns whether a function depends on each variable.
func needed(w *trial.World, values uint64) (l []bool) {
	for v := range w.M.Vars() {
		l = append(l, trial.Depends(values, v))
	}
	return l
}

// lists returns all lists of different variables, in every order.
func lists(vars int) (all [][]int) {
	for set := range 1 << vars {
		var l []int
		for v := range vars {
			if set>>v&1 == 1 {
				l = append(l, v)
			}
		}
		all = append(all, trial.Arrangements(l)...)
	}
	return all
}

func TestAllFunctionsOfThreeVariables(t *testing.T) {
	for vars := range 4 {
		w := trial.New(t, nil, vars, 2000)
		for values := range w.All() + 1 {
			f := w.Handle(values)
			leads(w, f, values)
			for _, l := range lists(vars) {
				enough := true
				for v, need := range needed(w, values) {
					enough = enough && (!need || slices.Contains(l, v))
				}
				if enough {
					tells(w, f, values, l...)
					continue
				}
				fails[bool](t, "Least", api.ErrArg)(satp.Least(w.M, f, l...))
				fails[bool](t, "At", api.ErrArg)(satp.At(w.M, f, nil, l...))
				fails[uint32](t, "Place", api.ErrArg)(satp.Place(w.M, f, make([]bool, len(l)), l...))
				fails[[]bool](t, "All", api.ErrArg)(satp.All(w.M, f, 9, l...))
			}
			w.M.Drop(f)
		}
	}
}

func TestRandomFunctions(t *testing.T) {
	r := rand.New(rand.NewSource(20))
	for range 300 {
		vars := r.Intn(7)
		w := trial.New(t, r, vars, trial.Enough(vars, 5))
		values := w.Some()
		f := w.Handle(values)
		for range 3 {
			w.Disturb()
			leads(w, f, values)
			l := slices.DeleteFunc(r.Perm(vars), func(v int) bool { return !trial.Depends(values, v) && r.Intn(2) == 0 })
			tells(w, f, values, l...)
			w.Keeps([]uint64{values}, []int{f})
		}
	}
}

// Nothing makes nodes, so it doesn't matter whether there is room.
func TestNoNodes(t *testing.T) {
	r := rand.New(rand.NewSource(21))
	for range 100 {
		w, tables, handles := trial.Tight(t, r, 5)
		for range r.Intn(6) {
			w.M.Swap(r.Intn(4))
		}
		many := w.M.Len()
		for i, f := range handles {
			leads(w, f, tables[i])
			tells(w, f, tables[i], r.Perm(5)...)
		}
		if w.M.Len() != many {
			t.Fatal(w.M.Len(), many)
		}
	}
}

// The assignments of a list are in memory of their own.
func TestNewMemory(t *testing.T) {
	w := trial.New(t, nil, 3, 100)
	l, e := satp.All(w.M, 1, 9, 2, 1, 0)
	if e != api.OK || len(l) != 8 {
		t.Fatal(l, e)
	}
	want := texts(l)
	for i := range l {
		row := append(l[i], true)
		row[0] = !row[0]
		l[i][1] = !l[i][1]
		for k := i + 1; k < len(l); k++ {
			if bits.Text(l[k]) != want[k] {
				t.Fatal(l)
			}
		}
	}
}

func TestManyVariables(t *testing.T) {
	m, e := dd.New(64, 5000)
	if e != api.OK {
		t.Fatal(e)
	}
	w := &trial.World{T: t, M: m}
	var down, up []int
	odd, some := 0, 0
	for v := range 64 {
		down, up = append(down, 63-v), append(up, v)
		x := w.Right(m.Var(63 - v))
		odd = w.Right(m.Ite(x, w.Right(m.Not(odd)), odd))
		some = w.Right(m.Ite(x, 1, some))
	}
	ones := slices.Repeat([]bool{true}, 64)
	zeros := make([]bool, 64)
	last := slices.Concat(zeros[:63], []bool{true})
	all, _ := cnt.Sub(cnt.Shift(cnt.Of(1), 64), cnt.Of(1))
	half := cnt.Shift(cnt.Of(1), 63)
	for _, vars := range [][]int{up, down} {
		picks(t, "Least", bits.Text(zeros))(satp.Least(m, 1, vars...))
		picks(t, "Least", bits.Text(last))(satp.Least(m, odd, vars...))
		picks(t, "Least", bits.Text(last))(satp.Least(m, some, vars...))
		picks(t, "At", bits.Text(ones))(satp.At(m, 1, all, vars...))
		fails[bool](t, "At", api.ErrRange)(satp.At(m, some, all, vars...))
		fails[bool](t, "At", api.ErrRange)(satp.At(m, odd, half, vars...))
		counts(t, "Place", all)(satp.Place(m, 1, ones, vars...))
		fails[uint32](t, "Place", api.ErrState)(satp.Place(m, odd, ones, vars...))
		for _, k := range []cnt.Nat{nil, cnt.Of(1), cnt.Of(math.MaxUint32), cnt.Of(1 << 62), cnt.Of(1<<63 - 1), append(cnt.Of(12345), 0, 0)} {
			for _, f := range []int{1, odd, some} {
				l, e := satp.At(m, f, k, vars...)
				if e != api.OK {
					t.Fatal(k, e)
				}
				counts(t, "Place", cnt.Add(k))(satp.Place(m, f, l, vars...))
			}
		}
		for _, most := range []int{api.MaxRows, api.MaxRows + 1, math.MaxInt} {
			for _, f := range []int{1, odd, some} {
				l, e := satp.All(m, f, most, vars...)
				if e != api.OK || len(l) != api.MaxRows {
					t.Fatal(len(l), e)
				}
				if !slices.IsSortedFunc(l, func(a, b []bool) int {
					if bits.Less(a, b) {
						return -1
					}
					return 1
				}) {
					t.Fatal("not in order")
				}
				counts(t, "Place", small(api.MaxRows-1))(satp.Place(m, f, l[api.MaxRows-1], vars...))
			}
		}
		fails[[]bool](t, "All of nothing", api.OK)(satp.All(m, 0, 9, vars...))
	}
	if l, e := satp.Any(m, 1); len(l) != 0 || e != api.OK {
		t.Error(l, e)
	}
	if l, e := satp.Any(m, odd); len(l) != 64 || e != api.OK {
		t.Error(l, e)
	}
}

func TestWrongArguments(t *testing.T) {
	w := trial.New(t, nil, 3, 100)
	f := w.Handle(0x5c)
	gone := w.Handle(1)
	w.M.Drop(gone)
	type call func(m *dd.Man, f int, vars ...int)
	refuses := func(want api.Errno) []call {
		return []call{
			func(m *dd.Man, f int, vars ...int) { fails[bool](t, "Least", want)(satp.Least(m, f, vars...)) },
			func(m *dd.Man, f int, vars ...int) { fails[bool](t, "At", want)(satp.At(m, f, cnt.Of(99), vars...)) },
			func(m *dd.Man, f int, vars ...int) { fails[uint32](t, "Place", want)(satp.Place(m, f, nil, vars...)) },
			func(m *dd.Man, f int, vars ...int) { fails[[]bool](t, "All", want)(satp.All(m, f, 9, vars...)) },
		}
	}
	for _, call := range refuses(api.ErrNone) {
		call(nil, 99, 9, 9)
	}
	for _, bad := range []int{gone, -1, 99, math.MinInt, math.MaxInt} {
		for _, call := range refuses(api.ErrHandle) {
			call(w.M, bad)
			call(w.M, bad, 1, 3, 1)
		}
		fails[api.Lit](t, "Any", api.ErrHandle)(satp.Any(w.M, bad))
	}
	for _, bad := range []int{-1, 3, 99, math.MinInt, math.MaxInt} {
		for _, call := range refuses(api.ErrVar) {
			call(w.M, f, bad)
			call(w.M, f, 1, 1, bad)
			call(w.M, f, 0, 1, 2, bad)
		}
	}
	for _, call := range refuses(api.ErrTwice) {
		call(w.M, f, 0, 0)
		call(w.M, f, 0, 1, 2, 0)
		call(w.M, 1, 2, 1, 2)
	}
	for _, call := range refuses(api.ErrArg) {
		call(w.M, f)
		call(w.M, f, 2, 0)
	}
	for _, l := range [][]bool{nil, {true}, {true, false}, {true, true, true, true}} {
		fails[uint32](t, "Place", api.ErrForm)(satp.Place(w.M, f, l, 0, 1, 2))
		fails[uint32](t, "Place", api.ErrForm)(satp.Place(w.M, 0, l, 0, 1, 2))
	}
	fails[uint32](t, "Place", api.ErrForm)(satp.Place(w.M, 1, []bool{false}))
	fails[api.Lit](t, "Any", api.ErrNone)(satp.Any(nil, 1))
	fails[api.Lit](t, "Any", api.ErrEmpty)(satp.Any(w.M, 0))
}
