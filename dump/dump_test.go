package dump_test

import (
	"math"
	"math/rand"
	"slices"
	"testing"

	"voussoir/api"
	"voussoir/dd"
	"voussoir/dump"
	"voussoir/trial"
)

// world is a world whose functions are dumped.
type world struct{ *trial.World }

func newWorld(t *testing.T, r *rand.Rand, vars, room int) world {
	return world{trial.New(t, r, vars, room)}
}

func row(v, lo, hi int) api.Row { return api.Row{Var: v, Lo: lo, Hi: hi} }

// rows checks what Rows returns.
func (w world) rows(l []int, rows []api.Row, roots ...int) {
	w.T.Helper()
	handles := w.M.Handles()
	got, to, e := dump.Rows(w.M, l...)
	if !slices.Equal(got, rows) || !slices.Equal(to, roots) || e != api.OK || w.M.Handles() != handles {
		w.T.Errorf("Rows of %v: %v, %v, %d; want %v, %v", l, got, to, e, rows, roots)
	}
}

func TestTheExample(t *testing.T) {
	w := newWorld(t, nil, 2, 100)
	rows := []api.Row{row(1, 1, 0), row(0, 1, 2)}
	w.rows([]int{w.Handle(0b1000)}, rows, 4)
	w.rows([]int{0}, nil, 1)
	if s, e := dump.Text(rows, []int{4}); s != "1 1 0\n0 1 2\nroots 4\n" || e != api.OK {
		t.Error(s, e)
	}
}

func TestRowsInPostOrder(t *testing.T) {
	w := newWorld(t, nil, 3, 1000)
	const A, B, C = 0b10101010, 0b11001100, 0b11110000
	a, b, c := w.Handle(A), w.Handle(B), w.Handle(C)
	not, ite := w.Handle(^uint64(B)&0xff), w.Handle(A&B|C&^A)
	above, parity := w.Handle(A&C|B&^A), w.Handle(A^B^C)
	w.rows(nil, nil)
	w.rows([]int{1, 0, 1}, nil, 0, 1, 0)
	w.rows([]int{b}, []api.Row{row(1, 1, 0)}, 2)
	w.rows([]int{not}, []api.Row{row(1, 1, 0)}, 3)
	w.rows([]int{b, not, 0, b}, []api.Row{row(1, 1, 0)}, 2, 3, 1, 2)
	w.rows([]int{c, a, b}, []api.Row{row(2, 1, 0), row(0, 1, 0), row(1, 1, 0)}, 2, 4, 6)
	w.rows([]int{ite}, []api.Row{row(2, 1, 0), row(1, 1, 0), row(0, 2, 4)}, 6)
	w.rows([]int{above}, []api.Row{row(1, 1, 0), row(2, 1, 0), row(0, 2, 4)}, 6)
	w.rows([]int{b, ite, above}, []api.Row{row(1, 1, 0), row(2, 1, 0), row(0, 4, 2), row(0, 2, 4)}, 2, 6, 8)
	w.rows([]int{parity}, []api.Row{row(2, 1, 0), row(1, 3, 2), row(0, 5, 4)}, 6)
	w.M.Swap(0)
	w.M.Swap(1)
	// The order is 1, 2, 0 now.
	w.rows([]int{ite}, []api.Row{row(0, 1, 0), row(2, 0, 2), row(2, 2, 0), row(1, 5, 6)}, 8)
}

func TestRandomFunctions(t *testing.T) {
	r := rand.New(rand.NewSource(26))
	for range 200 {
		vars := r.Intn(7)
		w, other := newWorld(t, r, vars, trial.Enough(vars, 16)), newWorld(t, r, min(vars+r.Intn(3), 6), trial.Enough(6, 16))
		for range 10 {
			var l []int
			var tables []uint64
			for range r.Intn(6) {
				tables = append(tables, w.Some())
				l = append(l, w.Handle(tables[len(tables)-1]))
			}
			w.Disturb()
			w.roundTrip(other, l, tables)
			w.DropAll()
		}
	}
}

// roundTrip checks the rows of the handles, and what they are loaded as in this manager and in another one.
func (w world) roundTrip(other world, l []int, tables []uint64) {
	order := w.M.Order()
	rows, roots, e := dump.Rows(w.M, l...)
	if e != api.OK || len(roots) != len(l) || !slices.Equal(order, w.M.Order()) {
		w.T.Fatal(rows, roots, e)
	}
	w.postOrder(order, rows, roots)
	for i, root := range roots {
		w.evaluates(rows, root, tables[i])
	}
	w.Disturb()
	other.Disturb()
	handles := w.M.Handles()
	loaded := w.loads(rows, roots, tables)
	if w.M.Handles() != handles+len(l) {
		w.T.Fatal("other handles than those of the roots were made")
	}
	again, _, _ := dump.Rows(w.M, loaded...)
	if now, _, _ := dump.Rows(w.M, l...); !slices.Equal(again, now) {
		w.T.Fatal(again, now)
	}
	wider := make([]uint64, len(tables))
	for i, values := range tables {
		for j := range 1 << other.M.Vars() {
			wider[i] |= values >> (j % (1 << w.M.Vars())) & 1 << j
		}
	}
	other.M.Drop(other.loads(rows, roots, wider)...)
	s, e := dump.Text(rows, roots)
	if e != api.OK {
		w.T.Fatal(e)
	}
	if got, to, e := dump.Read(s); !slices.Equal(got, rows) || !slices.Equal(to, roots) || e != api.OK {
		w.T.Fatal(s, got, to, e)
	}
}

// postOrder checks that the rows are those of nodes in post-order, each once.
func (w world) postOrder(order []int, rows []api.Row, roots []int) {
	met := map[int]bool{0: true}
	var next []int
	var walk func(n int)
	walk = func(n int) {
		if met[n] {
			return
		}
		met[n] = true
		x := rows[n-1]
		for _, to := range []int{x.Lo, x.Hi} {
			walk(to / 2)
			if to > 1 && slices.Index(order, rows[to/2-1].Var) <= slices.Index(order, x.Var) {
				w.T.Fatal("not in the order", order, rows)
			}
		}
		if x.Hi%2 == 1 || x.Lo == x.Hi {
			w.T.Fatal("not a node", x)
		}
		next = append(next, n)
	}
	for _, root := range roots {
		walk(root / 2)
	}
	for i, n := range next {
		if n != i+1 || slices.Contains(rows[:i], rows[i]) {
			w.T.Fatal("not in post-order", rows, roots)
		}
	}
	if len(next) != len(rows) {
		w.T.Fatal("rows that are not reached", rows, roots)
	}
}

// evaluates checks what Eval returns for a root.
func (w world) evaluates(rows []api.Row, root int, values uint64) {
	w.T.Helper()
	for i := range 1 << w.M.Vars() {
		l := w.Assignment(i)
		for len(l) > 0 && !l[len(l)-1] && w.R.Intn(2) == 0 {
			l = l[:len(l)-1]
		}
		if yes, e := dump.Eval(rows, root, l); yes != (values>>i&1 == 1) || e != api.OK {
			w.T.Fatalf("Eval of %v, %d at %v: %v, %d", rows, root, l, yes, e)
		}
	}
}

// loads checks that rows and roots are loaded as functions with these tables, and returns their handles.
func (w world) loads(rows []api.Row, roots []int, tables []uint64) []int {
	w.T.Helper()
	given, to := slices.Clone(rows), slices.Clone(roots)
	l, e := dump.Load(w.M, rows, roots)
	if e != api.OK || len(l) != len(roots) || !slices.Equal(rows, given) || !slices.Equal(roots, to) {
		w.T.Fatal(l, e)
	}
	for i, h := range l {
		if w.Right(h, api.OK); w.Table(h) != tables[i] || slices.Contains(l[:i], h) {
			w.T.Fatalf("%v, %d: handle %d of %x; want %x", rows, roots[i], h, w.Table(h), tables[i])
		}
	}
	return l
}

// Valid rows need not be those of a manager: they may be in any order, repeated, without need, and with Hi complemented.
func TestLoadAnyRows(t *testing.T) {
	r := rand.New(rand.NewSource(27))
	for range 500 {
		w := newWorld(t, r, 5, 20000)
		var rows []api.Row
		tables := []uint64{w.All()}
		value := func(to int) uint64 {
			if to%2 == 1 {
				return ^tables[to/2] & w.All()
			}
			return tables[to/2]
		}
		for i := range r.Intn(30) {
			x := row(r.Intn(5), r.Intn(2*i+2), r.Intn(2*i+2))
			rows = append(rows, x)
			is := w.R.Uint64()
			for j := range 32 {
				source := value(x.Lo)
				if j>>x.Var&1 == 1 {
					source = value(x.Hi)
				}
				is = is&^(1<<j) | source>>j&1<<j
			}
			tables = append(tables, is&w.All())
		}
		var roots []int
		var want []uint64
		for range r.Intn(9) {
			roots = append(roots, r.Intn(2*len(rows)+2))
			want = append(want, value(roots[len(roots)-1]))
		}
		for i, root := range roots {
			w.evaluates(rows, root, want[i])
		}
		w.Disturb()
		w.loads(rows, roots, want)
	}
}

func TestWhatIsValid(t *testing.T) {
	m, e := dd.New(64, 10000)
	if e != api.OK {
		t.Fatal(e)
	}
	long := make([]api.Row, api.MaxRows)
	for i := range long {
		long[i] = row(i%64, 0, 1)
	}
	long[api.MaxRows-1] = row(0, 2*api.MaxRows-1, 2*api.MaxRows-2)
	for _, x := range []struct {
		rows  []api.Row
		root  int
		valid bool
	}{
		{nil, 0, true}, {nil, 1, true}, {nil, 2, false}, {nil, -1, false}, {nil, math.MaxInt, false}, {nil, math.MinInt, false},
		{[]api.Row{row(0, 0, 0)}, 2, true}, {[]api.Row{row(0, 1, 1)}, 3, true}, {[]api.Row{row(0, 0, 1)}, 4, false},
		{[]api.Row{row(0, 2, 0)}, 0, false}, {[]api.Row{row(0, 0, 3)}, 0, false}, {[]api.Row{row(0, -1, 0)}, 0, false}, {[]api.Row{row(0, 0, -1)}, 0, false},
		{[]api.Row{row(0, math.MinInt, 0)}, 0, false}, {[]api.Row{row(0, 0, math.MaxInt)}, 0, false},
		{[]api.Row{row(63, 0, 0)}, 0, true}, {[]api.Row{row(64, 0, 0)}, 0, false}, {[]api.Row{row(-1, 0, 0)}, 0, false},
		{[]api.Row{row(0, 1, 0), row(1, 3, 2)}, 5, true}, {[]api.Row{row(0, 1, 0), row(1, 4, 2)}, 0, false}, {[]api.Row{row(0, 1, 0), row(1, 3, 5)}, 0, false},
		{[]api.Row{row(0, 1, 0), row(0, 3, 2), row(0, 1, 0)}, 6, true},
		{long, 2*api.MaxRows + 1, true}, {append(slices.Clone(long), row(0, 0, 1)), 0, false}, {long, 2*api.MaxRows + 2, false},
	} {
		want := api.ErrForm
		if x.valid {
			want = api.OK
		}
		handles := m.Handles()
		l, e := dump.Load(m, x.rows, []int{0, x.root})
		if e != want || len(l) != 2 && x.valid || l != nil && !x.valid || m.Handles() != handles+len(l) {
			t.Errorf("Load of %d rows, %d: %v, %d", len(x.rows), x.root, l, e)
		}
		if yes, e := dump.Eval(x.rows, x.root, nil); e != want || yes && !x.valid {
			t.Errorf("Eval of %d rows, %d: %v, %d", len(x.rows), x.root, yes, e)
		}
		if s, e := dump.Text(x.rows, []int{1, x.root}); e != want || (s == "") == x.valid {
			t.Errorf("Text of %d rows, %d: %.99q, %d", len(x.rows), x.root, s, e)
		}
	}
}

func TestLoadRefuses(t *testing.T) {
	w := newWorld(t, nil, 2, 3)
	load := func(m *dd.Man, rows []api.Row, roots ...int) (int, api.Errno) {
		l, e := dump.Load(m, rows, roots)
		return len(l), e
	}
	w.Fails("Load", api.ErrNone)(load(nil, nil))
	w.Fails("Load", api.ErrNone)(load(nil, nil, 9))
	w.Fails("Load", api.ErrVar)(load(w.M, []api.Row{row(2, 1, 0)}))
	w.Fails("Load", api.ErrVar)(load(w.M, []api.Row{row(1, 1, 0), row(63, 2, 0)}, 0))
	w.Fails("Load", api.ErrForm)(load(w.M, []api.Row{row(2, 1, 0)}, 4))
	w.Fails("Load", api.ErrForm)(load(w.M, []api.Row{row(2, 1, 0), row(0, 4, 0)}))
	xor := []api.Row{row(1, 1, 0), row(0, 3, 2)}
	if l, e := dump.Load(w.M, xor, []int{4, 5, 2}); e != api.OK || len(l) != 3 || w.Table(l[0]) != 0b1001 || w.Table(l[1]) != 0b0110 || w.Table(l[2]) != 0b1100 {
		t.Error(l, e)
	}
	w.Has("next", 0b1100)(w.M.Var(1))
	small := newWorld(t, nil, 2, 1)
	small.Fails("Load", api.ErrRoom)(load(small.M, xor, 4, 2))
	small.Fails("Load", api.ErrRoom)(load(small.M, xor, 2, 2, 4))
	small.Fails("Load", api.ErrRoom)(load(small.M, xor, 1, 5))
	if h, e := small.M.Var(0); h != 2 || e != api.OK {
		t.Error("the number of a handle tells of a failure:", h, e)
	}
}

// What fails for lack of room leaves nothing behind, also if an event changes the order amid it.
func TestLittleRoom(t *testing.T) {
	r := rand.New(rand.NewSource(28))
	failed, done := 0, 0
	for range 2000 {
		wide := newWorld(t, r, 5, 5000)
		tables := []uint64{wide.Some(), wide.Some(), wide.Some()}
		var l []int
		for _, values := range tables {
			l = append(l, wide.Handle(values))
		}
		rows, roots, e := dump.Rows(wide.M, l...)
		if e != api.OK {
			t.Fatal(e)
		}
		w := newWorld(t, r, 5, len(rows)+r.Intn(25))
		for range r.Intn(5) {
			w.Disturb()
		}
		l, e = dump.Load(w.M, rows, roots)
		switch {
		case e == api.OK && len(l) == 3:
			done++
			for i, h := range l {
				if w.Table(h) != tables[i] {
					t.Fatal(h)
				}
			}
		case e != api.ErrRoom || l != nil || w.M.Handles() != 2:
			t.Fatal(l, e)
		default:
			failed++
			if w.M.Collect(); w.M.Len() != 0 {
				t.Fatal("nodes are kept")
			}
		}
	}
	if failed < 100 || done < 100 {
		t.Error(failed, done)
	}
}

// An event that takes place between the functions of two roots can bring about an order for which there is no room.
func TestOrderChangesAmidLoad(t *testing.T) {
	pairs := []api.Row{row(5, 1, 0), row(4, 1, 2), row(3, 4, 0), row(2, 4, 6), row(1, 8, 0), row(0, 8, 10)}
	failed, done := 0, 0
	for after := 1; after < 100; after++ {
		for room := 11; room < 16; room++ {
			w := newWorld(t, nil, 6, room)
			w.M.Plan(api.Event{After: after, Kind: api.EvSwap, Level: 1}, api.Event{After: 1, Kind: api.EvSwap, Level: 3}, api.Event{After: 1, Kind: api.EvSwap, Level: 2})
			l, e := dump.Load(w.M, pairs, []int{2, 3, 12})
			switch {
			case e == api.OK && len(l) == 3:
				done++
			case e != api.ErrRoom || l != nil || w.M.Handles() != 2:
				t.Fatal(after, room, l, e, w.M.Handles())
			default:
				failed++
			}
		}
	}
	if failed < 20 || done < 20 {
		t.Error(failed, done)
	}
}

// The rows of a parity lead to one another in 2^64 ways.
func TestManyPaths(t *testing.T) {
	m, e := dd.New(64, 1000)
	if e != api.OK {
		t.Fatal(e)
	}
	var rows []api.Row
	for i := range 64 {
		rows = append(rows, row(63-i, 2*i+1, 2*i))
	}
	l, e := dump.Load(m, rows, []int{128})
	if e != api.OK {
		t.Fatal(e)
	}
	if got, roots, e := dump.Rows(m, l...); !slices.Equal(got, rows) || !slices.Equal(roots, []int{128}) || e != api.OK {
		t.Error(got, roots, e)
	}
}

func TestRowsRefuses(t *testing.T) {
	w := newWorld(t, nil, 2, 100)
	f := w.Handle(9)
	for _, l := range [][]int{{f + 1}, {-1, f}, {f, math.MaxInt}, {0, f, 1, f, math.MinInt}} {
		if rows, roots, e := dump.Rows(w.M, l...); rows != nil || roots != nil || e != api.ErrHandle {
			t.Error(rows, roots, e)
		}
	}
	if rows, roots, e := dump.Rows(nil, 0); rows != nil || roots != nil || e != api.ErrNone {
		t.Error(rows, roots, e)
	}
}

// distinct returns the rows of that many nodes, and their edges.
func distinct(many int) (rows []api.Row, roots []int) {
	for v := 63; v >= 0; v-- {
		below, here := 2*len(rows)+2, 0
		for lo := range below {
			for hi := 0; hi < below && here < 100 && len(rows) < many; hi += 2 {
				if lo != hi {
					rows = append(rows, row(v, lo, hi))
					roots = append(roots, 2*len(rows))
					here++
				}
			}
		}
	}
	return rows, roots
}

func TestManyRows(t *testing.T) {
	m, e := dd.New(64, 10000)
	if e != api.OK {
		t.Fatal(e)
	}
	rows, roots := distinct(api.MaxRows)
	l, e := dump.Load(m, rows, roots)
	if e != api.OK || len(l) != api.MaxRows {
		t.Fatal(len(l), e)
	}
	if got, to, e := dump.Rows(m, l...); !slices.Equal(got, rows) || !slices.Equal(to, roots) || e != api.OK {
		t.Error(len(got), len(to), e)
	}
	not, e := m.Not(l[api.MaxRows-1])
	if e != api.OK {
		t.Fatal(e)
	}
	if got, to, e := dump.Rows(m, append(l, not, 0)...); len(got) != api.MaxRows || len(to) != api.MaxRows+2 || e != api.OK {
		t.Error(len(got), len(to), e)
	}
	more, e := m.Var(0)
	if e != api.OK {
		t.Fatal(e)
	}
	for _, l := range [][]int{append([]int{more}, l...), append(slices.Clone(l), more)} {
		if got, to, e := dump.Rows(m, l...); got != nil || to != nil || e != api.ErrMany {
			t.Error(len(got), len(to), e)
		}
		if _, _, e := dump.Rows(m, append(l, -1)...); e != api.ErrHandle {
			t.Error(e)
		}
	}
}
