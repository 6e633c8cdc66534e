package fix_test

import (
	"math"
	"math/rand"
	"slices"
	"testing"

	"voussoir/api"
	"voussoir/dd"
	"voussoir/fix"
	"voussoir/ops"
	"voussoir/trial"
)

// mapping is what the functions take.
type mapping = func(h int) (int, api.Errno)

// lift returns a mapping of handles that does what op does to tables; it counts its calls.
func lift(w *trial.World, calls *int, op func(values uint64) uint64) mapping {
	return func(h int) (int, api.Errno) {
		*calls++
		return w.Handle(op(w.Table(h))), api.OK
	}
}

// graph returns a mapping of tables to the union of the rows of their elements: it is monotone.
func graph(w *trial.World) func(values uint64) uint64 {
	rows := make([]uint64, 1<<w.M.Vars())
	for i := range rows {
		for range w.R.Intn(3) {
			rows[i] |= 1 << w.R.Intn(len(rows))
		}
	}
	return func(values uint64) (r uint64) {
		for i, row := range rows {
			if values>>i&1 == 1 {
				r |= row
			}
		}
		return r
	}
}

// iterate returns what op makes of values in the end, and the number of steps to there.
func iterate(values uint64, op func(values uint64) uint64) (end uint64, steps int) {
	for steps := 1; steps <= 9999; steps++ {
		next := op(values)
		if next == values {
			return values, steps
		}
		values = next
	}
	return 0, 0
}

// yields checks what a call has returned, and drops it.
func yields(w *trial.World, about string, calls *int, values uint64, want int) func(h, steps int, e api.Errno) {
	many := w.M.Handles()
	*calls = 0
	return func(h, steps int, e api.Errno) {
		w.T.Helper()
		if e != api.OK || h < 2 || w.Table(h) != values&w.All() || steps != want || *calls != want || w.M.Handles() != many+1 {
			w.T.Fatalf("%s: %d, %d, %d, and %d calls, %d handles; want %d calls, %d handles", about, h, steps, e, *calls, w.M.Handles(), want, many+1)
		}
		w.M.Drop(h)
	}
}

// fails checks that a call has failed with that error, after so many calls.
func fails(w *trial.World, about string, calls *int, want api.Errno, wanted int) func(h, steps int, e api.Errno) {
	many := w.M.Handles()
	*calls = 0
	return func(h, steps int, e api.Errno) {
		w.T.Helper()
		if e != want || h != 0 || steps != 0 || *calls != wanted || w.M.Handles() != many {
			w.T.Fatalf("%s: %d, %d, %d, and %d calls, %d handles; want %d, %d calls, %d handles", about, h, steps, e, *calls, w.M.Handles(), want, wanted, many)
		}
	}
}

// tables returns the tables of handles, which it drops.
func tables(w *trial.World, l []int) (values []uint64) {
	w.T.Helper()
	seen := map[int]bool{}
	for _, h := range l {
		if h < 2 || seen[h] {
			w.T.Fatal(l)
		}
		seen[h] = true
		values = append(values, w.Table(h))
	}
	if e := w.M.Drop(l...); e != api.OK {
		w.T.Fatal(e)
	}
	return values
}

// ranks returns the functions of Rank.
func ranks(q uint64, op func(values uint64) uint64) []uint64 {
	l := []uint64{q}
	for all := q; op(all)&^all != 0; all |= op(all) {
		l = append(l, op(all)&^all)
	}
	return l
}

// ranked checks what Rank returns for all numbers of functions.
func ranked(w *trial.World, q int, op func(values uint64) uint64) {
	w.T.Helper()
	want := ranks(w.Table(q), op)
	many, calls := w.M.Handles(), 0
	for _, most := range []int{len(want), len(want) - 1, len(want) + 1, 1, 0, -1, math.MinInt, math.MaxInt} {
		calls = 0
		l, whole, e := fix.Rank(w.M, q, lift(w, &calls, op), most)
		got := min(max(most, 0), len(want))
		values := tables(w, l)
		if e != api.OK || whole != (got == len(want)) || !slices.Equal(values, want[:got]) || calls > len(want) || w.M.Handles() != many {
			w.T.Fatalf("Rank, %d: %x, %v, %d, and %d calls, %d handles; want %d of %x", most, values, whole, e, calls, w.M.Handles(), got, want)
		}
	}
}

func TestTheExample(t *testing.T) {
	w := trial.New(t, nil, 1, 100)
	x, calls := w.Handle(0b10), 0
	f := func(h int) (int, api.Errno) {
		calls++
		return ops.Or(w.M, h, x)
	}
	yields(w, "Least", &calls, 0b10, 2)(fix.Least(w.M, f))
	l, whole, e := fix.Rank(w.M, 0, f, 99)
	if values := tables(w, l); !slices.Equal(values, []uint64{0, 0b10}) || !whole || e != api.OK {
		t.Error(values, whole, e)
	}
}

func TestMonotoneMappings(t *testing.T) {
	r := rand.New(rand.NewSource(45))
	for range 300 {
		w := trial.New(t, r, r.Intn(6), 5000)
		calls := 0
		post, base := graph(w), w.Some()
		more := func(values uint64) uint64 { return base | post(values) }
		fewer := func(values uint64) uint64 { return base & post(values) }
		q := w.Handle(w.Some())
		values := w.Table(q)
		w.Disturb()
		end, steps := iterate(0, more)
		yields(w, "Least", &calls, end, steps)(fix.Least(w.M, lift(w, &calls, more)))
		end, steps = iterate(w.All(), fewer)
		yields(w, "Greatest", &calls, end, steps)(fix.Greatest(w.M, 1, lift(w, &calls, fewer)))
		w.Disturb()
		end, steps = iterate(values, func(h uint64) uint64 { return values | post(h) })
		yields(w, "Until", &calls, end, steps)(fix.Until(w.M, q, lift(w, &calls, post)))
		ranked(w, q, post)
		ranked(w, q, more)
		ranked(w, 0, more)
		if got := w.Table(q); got != values {
			t.Fatal("q has changed")
		}
		w.DropAll()
	}
}

// Nobody asks for monotony.
func TestOtherMappings(t *testing.T) {
	r := rand.New(rand.NewSource(46))
	w := trial.New(t, r, 4, 5000)
	for range 300 {
		seed := w.R.Uint64() | 1
		op := func(values uint64) uint64 { // a chain that ends
			if values%7 < 2 {
				return values
			}
			return (values*seed + 5) & w.All() &^ (values & -values)
		}
		q := w.Handle(w.Some())
		values, calls := w.Table(q), 0
		if end, steps := iterate(values, op); steps > 0 {
			yields(w, "Greatest", &calls, end, steps)(fix.Greatest(w.M, q, lift(w, &calls, op)))
		}
		if end, steps := iterate(0, op); steps > 0 {
			yields(w, "Least", &calls, end, steps)(fix.Least(w.M, lift(w, &calls, op)))
		}
		if end, steps := iterate(values, func(h uint64) uint64 { return values | op(h) }); steps > 0 {
			yields(w, "Until", &calls, end, steps)(fix.Until(w.M, q, lift(w, &calls, op)))
		}
		ranked(w, q, op)
		w.DropAll()
	}
}

// The functions of Rank are disjoint, and their disjunction is Until.
func TestDerivedProperties(t *testing.T) {
	r := rand.New(rand.NewSource(47))
	for range 200 {
		w := trial.New(t, r, 1+r.Intn(5), 5000)
		calls := 0
		f := lift(w, &calls, graph(w))
		q := w.Handle(w.Some())
		until, _, e := fix.Until(w.M, q, f)
		w.Right(until, e)
		least, _, e := fix.Least(w.M, f)
		w.Same("a fixpoint", w.Right(f(least)), w.Right(least, e))
		l, whole, e := fix.Rank(w.M, q, f, api.MaxSteps)
		if !whole || e != api.OK {
			t.Fatal(whole, e)
		}
		for i, g := range l {
			for _, h := range l[:i] {
				w.Asks("disjoint", false)(ops.Meets(w.M, g, h))
			}
		}
		w.Same("all functions of Rank", w.Right(ops.Or(w.M, l...)), until)
	}
}

// turning returns a mapping that changes its argument in so many calls, and in no more.
func turning(w *trial.World, calls *int, changes int) mapping {
	return func(h int) (int, api.Errno) {
		*calls++
		if *calls > changes {
			return w.M.Copy(h)
		}
		return w.M.Not(h)
	}
}

func TestFuel(t *testing.T) {
	w := trial.New(t, nil, 2, 100)
	q, calls := w.Handle(0b0110), 0
	least := api.MaxSteps - 1
	yields(w, "Least", &calls, uint64(-(least % 2)), api.MaxSteps)(fix.Least(w.M, turning(w, &calls, least)))
	yields(w, "Greatest", &calls, 0b1001, api.MaxSteps)(fix.Greatest(w.M, q, turning(w, &calls, least)))
	fails(w, "Least", &calls, api.ErrFuel, api.MaxSteps)(fix.Least(w.M, turning(w, &calls, api.MaxSteps)))
	fails(w, "Greatest", &calls, api.ErrFuel, api.MaxSteps)(fix.Greatest(w.M, q, turning(w, &calls, math.MaxInt)))
	even := w.Handle(0b1100)
	// The disjunction with q changes with the negation of what lies outside of q.
	fails(w, "Until", &calls, api.ErrFuel, api.MaxSteps)(fix.Until(w.M, even, turning(w, &calls, api.MaxSteps)))
	yields(w, "Until", &calls, 0b1111, api.MaxSteps)(fix.Until(w.M, even, turning(w, &calls, least)))
}

// A list of as many functions as there are steps is whole, one of more is not.
func TestLongRanks(t *testing.T) {
	m, e := dd.New(13, 1<<17)
	if e != api.OK {
		t.Fatal(e)
	}
	w := &trial.World{T: t, M: m}
	var vars []int
	for v := range 13 {
		vars = append(vars, w.Right(m.Var(v)))
	}
	// next adds the number that follows those below n, all of which are in h.
	calls := 0
	counter := func(last int) mapping {
		calls = 0
		return func(h int) (int, api.Errno) {
			calls++
			if calls > last {
				return m.Copy(h)
			}
			number := 1
			for v, x := range vars {
				lo, hi := 0, number
				if calls>>v&1 == 0 {
					lo, hi = number, 0
				}
				var e api.Errno
				number, e = m.Ite(x, hi, lo)
				if e != api.OK {
					return 0, e
				}
				if v > 0 {
					m.Drop(max(lo, hi))
				}
			}
			return number, api.OK
		}
	}
	many := m.Handles()
	for _, last := range []int{api.MaxSteps - 2, api.MaxSteps - 1, api.MaxSteps} {
		l, whole, e := fix.Rank(m, 0, counter(last), math.MaxInt)
		if len(l) != min(last+1, api.MaxSteps) || whole != (last < api.MaxSteps) || e != api.OK || m.Handles() != many+len(l) {
			t.Fatal(last, len(l), whole, e, m.Handles(), many)
		}
		m.Drop(l...)
		m.Collect()
	}
}

// An error of the mapping ends the computation.
func TestErrorsOfTheMapping(t *testing.T) {
	w := trial.New(t, nil, 3, 200)
	q, calls := w.Handle(0b10), 0
	for wanted := 1; wanted <= 5; wanted++ {
		f := func(h int) (int, api.Errno) {
			calls++
			if calls == wanted {
				return 0, api.ErrPlace
			}
			values := w.Table(h)
			return w.Handle(values | values<<1 | 1), api.OK
		}
		fails(w, "Least", &calls, api.ErrPlace, wanted)(fix.Least(w.M, f))
		fails(w, "Greatest", &calls, api.ErrPlace, wanted)(fix.Greatest(w.M, q, f))
		fails(w, "Until", &calls, api.ErrPlace, wanted)(fix.Until(w.M, q, f))
		check := fails(w, "Rank", &calls, api.ErrPlace, wanted)
		l, whole, e := fix.Rank(w.M, q, f, 99)
		check(len(l), 0, e)
		if whole {
			t.Error("whole")
		}
		calls = 0
		l, whole, e = fix.Rank(w.M, q, f, wanted-1) // the call that fails is not made
		if len(l) != wanted-1 || whole || e != api.OK {
			t.Error(l, whole, e)
		}
		w.M.Drop(l...)
	}
}

// Mappings that do not return a new handle do no harm.
func TestOtherHandles(t *testing.T) {
	w := trial.New(t, nil, 2, 100)
	q, calls := w.Handle(0b0110), 0
	values := w.Table(q)
	same := func(h int) (int, api.Errno) {
		calls++
		return h, api.OK
	}
	yields(w, "Least", &calls, 0, 1)(fix.Least(w.M, same))
	yields(w, "Greatest", &calls, values, 1)(fix.Greatest(w.M, q, same))
	yields(w, "Until", &calls, values, 1)(fix.Until(w.M, q, same))
	many := w.M.Handles()
	l, whole, e := fix.Rank(w.M, q, same, 9)
	if !slices.Equal(tables(w, l), []uint64{values}) || !whole || e != api.OK || w.M.Handles() != many || w.Table(q) != values {
		t.Error(l, whole, e)
	}
	none := func(h int) (int, api.Errno) {
		calls++
		return -7, api.OK
	}
	fails(w, "Least", &calls, api.ErrHandle, 1)(fix.Least(w.M, none))
	fails(w, "Greatest", &calls, api.ErrHandle, 1)(fix.Greatest(w.M, q, none))
	fails(w, "Until", &calls, api.ErrHandle, 1)(fix.Until(w.M, q, none))
	check := fails(w, "Rank", &calls, api.ErrHandle, 1)
	l, _, e = fix.Rank(w.M, q, none, 9)
	check(len(l), 0, e)
	constant := func(h int) (int, api.Errno) {
		calls++
		return 1, api.OK
	}
	yields(w, "Least", &calls, 0b1111, 2)(fix.Least(w.M, constant))
	yields(w, "Until", &calls, 0b1111, 2)(fix.Until(w.M, q, constant))
}

// If a mapping panics, no handle remains.
func TestPanics(t *testing.T) {
	w := trial.New(t, nil, 2, 100)
	q := w.Handle(0b0110)
	for about, call := range map[string]func(f mapping){
		"Least":    func(f mapping) { fix.Least(w.M, f) },
		"Greatest": func(f mapping) { fix.Greatest(w.M, q, f) },
		"Until":    func(f mapping) { fix.Until(w.M, q, f) },
		"Rank":     func(f mapping) { fix.Rank(w.M, q, f, 9) },
	} {
		many, calls := w.M.Handles(), 0
		func() {
			defer func() {
				if recover() == nil || w.M.Handles() != many || calls != 2 {
					t.Errorf("%s: %d calls, and %d handles; want %d", about, calls, w.M.Handles(), many)
				}
			}()
			call(func(h int) (int, api.Errno) {
				calls++
				if calls == 2 {
					panic("enough")
				}
				return w.M.Not(h)
			})
		}()
	}
}

func TestWrongArguments(t *testing.T) {
	w := trial.New(t, nil, 2, 100)
	q, calls := w.Handle(0b0110), 0
	gone := w.Handle(1)
	w.M.Drop(gone)
	not := func(h int) (int, api.Errno) {
		calls++
		return w.M.Not(h)
	}
	rank := func(m *dd.Man, q int, f mapping) (int, int, api.Errno) {
		l, whole, e := fix.Rank(m, q, f, 5)
		if whole {
			t.Error("whole")
		}
		return len(l), 0, e
	}
	for about, call := range map[string]func(m *dd.Man, q int, f mapping) (int, int, api.Errno){"Greatest": fix.Greatest, "Until": fix.Until, "Rank": rank} {
		for _, bad := range []int{gone, -1, 99, math.MinInt, math.MaxInt} {
			fails(w, about, &calls, api.ErrHandle, 0)(call(w.M, bad, not))
			fails(w, about, &calls, api.ErrHandle, 0)(call(w.M, bad, nil))
		}
		fails(w, about, &calls, api.ErrArg, 0)(call(w.M, q, nil))
		fails(w, about, &calls, api.ErrArg, 0)(call(w.M, 0, nil))
		fails(w, about, &calls, api.ErrNone, 0)(call(nil, 9, not))
		fails(w, about, &calls, api.ErrNone, 0)(call(nil, 0, nil))
	}
	fails(w, "Least", &calls, api.ErrArg, 0)(fix.Least(w.M, nil))
	fails(w, "Least", &calls, api.ErrNone, 0)(fix.Least(nil, not))
	fails(w, "Least", &calls, api.ErrNone, 0)(fix.Least(nil, nil))
}

func TestLittleRoom(t *testing.T) {
	trial.LittleRoom(t, rand.New(rand.NewSource(48)),
		func(m *dd.Man, f, g int) (int, api.Errno) {
			h, _, e := fix.Until(m, f, func(h int) (int, api.Errno) { return ops.Or(m, h, g) })
			return h, e
		},
		func(m *dd.Man, f, g int) (int, api.Errno) {
			l, _, e := fix.Rank(m, f, func(h int) (int, api.Errno) { return m.Copy(g) }, 9)
			if e != api.OK {
				return len(l), e
			}
			m.Drop(l[1:]...)
			return l[0], e
		})
}
