package nodes_test

import (
	"math/rand"
	"slices"
	"testing"

	"voussoir/api"
	"voussoir/edge"
	"voussoir/nodes"
)

// world is a store with what it should hold. A function is given by the list of its values, as bits: bit i is the value where variable v has the value of bit v of i.
type world struct {
	t     *testing.T
	s     *nodes.Store
	vars  int
	holds map[uint64]int // how often each function or its complement, that of the two which is true where all is true, was held
	order []int
	dice  *rand.Rand
}

func newWorld(t *testing.T, vars, room int, seed int64) *world {
	w := &world{t: t, s: newStore(t, vars, room), vars: vars, holds: map[uint64]int{}, dice: rand.New(rand.NewSource(seed))}
	for v := range vars {
		w.order = append(w.order, v)
	}
	return w
}

// all returns the constant true.
func (w *world) all() uint64 {
	return 1<<(1<<w.vars) - 1
}

// where returns the function that is true where variable v is.
func (w *world) where(v int) uint64 {
	bits := uint64(0)
	for i := range 1 << w.vars {
		bits |= uint64(i>>v&1) << i
	}
	return bits
}

// even returns bits or its complement: the one that is true where all is true.
func (w *world) even(bits uint64) uint64 {
	if bits>>(1<<w.vars-1)&1 == 0 {
		return w.all() &^ bits
	}
	return bits
}

// half returns a cofactor of a function.
func (w *world) half(bits uint64, v int, yes bool) uint64 {
	if yes {
		bits &= w.where(v)
		return bits | bits>>(1<<v)
	}
	bits &^= w.where(v)
	return bits | bits<<(1<<v)
}

// first returns the level of the first variable on which a function depends, or the number of levels.
func (w *world) first(bits uint64) int {
	for level, v := range w.order {
		if w.half(bits, v, true) != w.half(bits, v, false) {
			return level
		}
	}
	return w.vars
}

// bits returns the function of an edge.
func (w *world) bits(f edge.Edge) uint64 {
	v, lo, hi, ok := w.s.At(f)
	switch {
	case ok:
		return w.bits(lo)&^w.where(v) | w.bits(hi)&w.where(v)
	case f == edge.One:
		return w.all()
	}
	return 0
}

// edges returns all valid edges with their functions.
func (w *world) edges() map[edge.Edge]uint64 {
	l := map[edge.Edge]uint64{edge.One: w.all(), edge.Zero: 0}
	for n := range w.s.Each() {
		f := edge.Of(n.ID, false)
		l[f], l[f.Not()] = w.bits(f), w.bits(f.Not())
	}
	return l
}

// reach adds to found all functions that are reached from one by cofactors, constants aside and of each pair of complements the one.
func (w *world) reach(bits uint64, found map[uint64]bool) {
	level := w.first(bits)
	if bits = w.even(bits); level == w.vars || found[bits] {
		return
	}
	found[bits] = true
	w.reach(w.half(bits, w.order[level], false), found)
	w.reach(w.half(bits, w.order[level], true), found)
}

// live returns the functions of the live nodes.
func (w *world) live() map[uint64]bool {
	found := map[uint64]bool{}
	for bits, many := range w.holds {
		if many > 0 {
			w.reach(bits, found)
		}
	}
	return found
}

// inspect checks all that is promised of a store at any time.
func (w *world) inspect(about string) {
	w.t.Helper()
	s := w.s
	if !slices.Equal(s.Order(), w.order) {
		w.t.Fatalf("%s: order %v; want %v", about, s.Order(), w.order)
	}
	for level, v := range w.order {
		if s.Level(v) != level {
			w.t.Fatalf("%s: variable %d is at level %d", about, v, s.Level(v))
		}
	}
	many, last := 0, 0
	for n := range s.Each() {
		if n.ID <= last || n.ID > s.Room() || n.Lo == n.Hi || edge.Edge(n.Hi).Neg() || n.Var < 0 || n.Var >= w.vars {
			w.t.Fatalf("%s: node %v", about, n)
		}
		for _, kid := range []edge.Edge{edge.Edge(n.Lo), edge.Edge(n.Hi)} {
			if v, _, _, ok := s.At(kid); !s.Is(kid) || ok && s.Level(v) <= s.Level(n.Var) {
				w.t.Fatalf("%s: node %v has the edge %d", about, n, kid)
			}
		}
		if refs := w.holds[w.even(w.bits(edge.Of(n.ID, false)))]; n.Refs != refs || s.Held(edge.Of(n.ID, true)) != refs {
			w.t.Fatalf("%s: node %v was held %d times", about, n, refs)
		}
		many, last = many+1, n.ID
	}
	if many != s.Len() || many > s.Room() {
		w.t.Fatalf("%s: %d nodes; Len is %d", about, many, s.Len())
	}
	known := map[uint64]edge.Edge{}
	for f, bits := range w.edges() {
		if other, found := known[bits]; found {
			w.t.Fatalf("%s: %d and %d have the same value", about, f, other)
		}
		if f.Neg() != (bits>>(1<<w.vars-1)&1 == 0) {
			w.t.Fatalf("%s: %d is complemented or not, though it has the values %x", about, f, bits)
		}
		known[bits] = f
	}
	for bits, many := range w.holds {
		if _, found := known[bits]; many > 0 && !found {
			w.t.Fatalf("%s: the function %x is held, but lost", about, bits)
		}
	}
	if live := len(w.live()); s.Len()-s.Dead() != live {
		w.t.Fatalf("%s: %d nodes, %d dead; want %d live", about, s.Len(), s.Dead(), live)
	}
}

// random returns a valid edge.
func (w *world) random() edge.Edge {
	ids := []int{0}
	for n := range w.s.Each() {
		ids = append(ids, n.ID)
	}
	return edge.Of(ids[w.dice.Intn(len(ids))], w.dice.Intn(2) == 0)
}

// wild returns an edge that is often invalid.
func (w *world) wild() edge.Edge {
	if w.dice.Intn(8) > 0 {
		return w.random()
	}
	return edge.Edge(w.dice.Intn(2*w.s.Room()+8) - 4)
}

// make calls Mk and checks its answer.
func (w *world) make(v int, lo, hi edge.Edge) {
	w.t.Helper()
	s, before := w.s, w.edges()
	low, lowFound := before[lo]
	high, highFound := before[hi]
	list := slices.Collect(s.Each())
	f, e := s.Mk(v, lo, hi)
	level := slices.Index(w.order, v)
	want := api.OK
	switch {
	case level < 0:
		want = api.ErrVar
	case !lowFound || !highFound:
		want = api.ErrHandle
	case w.first(low) <= level || w.first(high) <= level:
		want = api.ErrOrder
	}
	if want == api.OK {
		bits := low&^w.where(v) | high&w.where(v)
		found := false
		for g, other := range before {
			if other == bits {
				found = true
				if f != g || e != api.OK {
					w.t.Fatalf("Mk(%d, %d, %d): %d, %d; want %d", v, lo, hi, f, e, g)
				}
			}
		}
		if !found && len(list) < s.Room() {
			if e != api.OK || w.bits(f) != bits || s.Len() != len(list)+1 {
				w.t.Fatalf("Mk(%d, %d, %d): %d, %d", v, lo, hi, f, e)
			}
			return
		}
		if !found {
			want = api.ErrRoom
		}
	}
	if e != want || want != api.OK && f != 0 || !slices.Equal(list, slices.Collect(s.Each())) {
		w.t.Fatalf("Mk(%d, %d, %d): %d, %d; want %d", v, lo, hi, f, e, want)
	}
}

// hold calls Hold or Drop and checks the answer.
func (w *world) hold(f edge.Edge, drop bool) {
	w.t.Helper()
	bits, found := w.edges()[f]
	bits = w.even(bits)
	want := api.OK
	switch {
	case !found:
		want = api.ErrHandle
	case drop && !f.Const() && w.holds[bits] == 0:
		want = api.ErrNone
	}
	var e api.Errno
	step := 1
	if drop {
		step, e = -1, w.s.Drop(f)
	} else {
		e = w.s.Hold(f)
	}
	if e != want {
		w.t.Fatalf("Hold or Drop (%v) of %d: %d; want %d", drop, f, e, want)
	}
	if e == api.OK && !f.Const() {
		w.holds[bits] += step
	}
}

// collect calls Collect and checks the answer.
func (w *world) collect() {
	w.t.Helper()
	before, live := w.edges(), w.live()
	if dead, many := w.s.Dead(), w.s.Collect(); many != dead || w.s.Len() != len(live) {
		w.t.Fatalf("Collect: %d; %d were dead, and %d nodes remain", many, dead, w.s.Len())
	}
	for f, bits := range before {
		if want := f.Const() || live[w.even(bits)]; w.s.Is(f) != want || want && w.bits(f) != bits {
			w.t.Fatalf("Collect: the edge %d is kept: %v", f, w.s.Is(f))
		}
	}
}

// swap calls Swap and checks the answer. It returns false if there is no room.
func (w *world) swap(level int) bool {
	w.t.Helper()
	before, live := w.edges(), w.live()
	list := slices.Collect(w.s.Each())
	e := w.s.Swap(level)
	if level < 0 || level >= w.vars-1 {
		if e != api.ErrRange || !slices.Equal(list, slices.Collect(w.s.Each())) {
			w.t.Fatalf("Swap(%d): %d", level, e)
		}
		return true
	}
	if e == api.OK {
		w.order[level], w.order[level+1] = w.order[level+1], w.order[level]
	}
	if e != api.OK && (e != api.ErrRoom || w.s.Room() >= 3*len(live)) {
		w.t.Fatalf("Swap(%d): %d with room for %d nodes, %d of them live", level, e, w.s.Room(), len(live))
	}
	for f, bits := range before {
		if !live[w.even(bits)] && !f.Const() {
			continue
		}
		if !w.s.Is(f) || w.bits(f) != bits {
			w.t.Fatalf("Swap(%d): the edge %d has changed its value", level, f)
		}
	}
	if e == api.ErrRoom {
		list = slices.DeleteFunc(list, func(n api.Node) bool { return !live[w.even(before[edge.Of(n.ID, false)])] })
		if !slices.Equal(list, slices.Collect(w.s.Each())) {
			w.t.Fatalf("Swap(%d) had no room, but has changed the store", level)
		}
	}
	return e == api.OK
}

func TestRandomCalls(t *testing.T) {
	short, rooms := 0, []int{1, 2, 3, 4, 5, 6, 7, 8, 10, 12, 15, 20, 40, 200}
	for seed := range int64(120) {
		vars, room := int(seed%6), rooms[int(seed)%len(rooms)]
		w := newWorld(t, vars, room, seed)
		for range 120 {
			switch w.dice.Intn(12) {
			case 0, 1, 2:
				w.hold(w.wild(), false)
			case 3:
				w.hold(w.wild(), true)
			case 4:
				if w.dice.Intn(3) == 0 {
					w.collect()
				}
			case 5, 6:
				if !w.swap(w.dice.Intn(vars+2) - 1) {
					short++
				}
			default:
				w.make(w.dice.Intn(vars+2)-1, w.wild(), w.wild())
				w.make(w.dice.Intn(vars+2)-1, w.random(), w.random())
			}
			w.inspect("after a call")
		}
	}
	if short < 5 {
		t.Errorf("only %d swaps were without room", short)
	}
}

// build makes a function of a new node, whose variable is the first that it depends on.
func (w *world) build(bits uint64) edge.Edge {
	level := w.first(bits)
	if level == w.vars {
		return edge.One.Flip(bits == 0)
	}
	v := w.order[level]
	return mk(w.t, w.s, v, w.build(w.half(bits, v, false)), w.build(w.half(bits, v, true)))
}

func TestEveryFunctionInEveryOrder(t *testing.T) {
	w := newWorld(t, 3, 400, 1)
	edges := map[uint64]edge.Edge{}
	for bits := range uint64(256) {
		f := w.build(bits)
		edges[bits] = f
		w.hold(f, false)
	}
	for _, level := range []int{0, 1, 0, 1, 0, 1, 1, 0, 0} {
		if !w.swap(level) {
			t.Fatal("no room")
		}
		w.inspect("every function")
		for bits, f := range edges {
			if w.bits(f) != bits || w.build(bits) != f {
				t.Fatalf("the function %x", bits)
			}
		}
	}
	if w.s.Len() != 127 || w.s.Dead() != 0 {
		t.Error(w.s.Len(), w.s.Dead())
	}
}

func TestSwapTwice(t *testing.T) {
	for seed := range int64(60) {
		w := newWorld(t, 5, 300, seed)
		var held []edge.Edge
		for range 1 + w.dice.Intn(4) {
			f := w.build(w.dice.Uint64() & w.all())
			w.hold(f, false)
			held = append(held, f)
		}
		w.collect()
		for level := range 4 {
			order, live := w.s.Order(), w.s.Len()-w.s.Dead()
			w.swap(level)
			w.inspect("one swap")
			w.swap(level)
			w.inspect("two swaps")
			if !slices.Equal(w.s.Order(), order) || w.s.Len()-w.s.Dead() != live {
				t.Fatal("two swaps have changed the order or the number of live nodes")
			}
			w.collect()
			w.swap(w.dice.Intn(4))
		}
	}
}

func TestTheRoomThatASwapNeeds(t *testing.T) {
	for seed := range int64(60) {
		level := int(seed % 3)
		load := func(room int) *world {
			w := newWorld(t, 4, room, seed)
			for range 1 + seed%4 {
				w.hold(w.build(w.dice.Uint64()&w.all()), false)
			}
			return w
		}
		w := load(200)
		live := w.s.Len()
		w.collect()
		if w.s.Len() != live {
			t.Fatal("a function has dead nodes")
		}
		w.swap(level)
		need := w.s.Len()
		if need > 3*live {
			t.Fatalf("%d nodes after a swap of %d", need, live)
		}
		for room := live; room <= need+1; room++ {
			if ok := load(room).swap(level); ok != (room >= need) {
				t.Errorf("Swap in room %d, where %d nodes are needed: %v", room, need, ok)
			}
		}
	}
}

func TestManyLevels(t *testing.T) {
	// The function is (x0 and x1) or (x2 and x3) or .., which has as many nodes as variables in this order.
	s := newStore(t, 20, 4000)
	f := edge.Zero
	for v := 18; v >= 0; v -= 2 {
		f = mk(t, s, v, f, mk(t, s, v+1, f, edge.One))
	}
	expect(t, "Hold", s.Hold(f), api.OK)
	counts(t, s, 20, 0)
	check := func() {
		t.Helper()
		dice := rand.New(rand.NewSource(9))
		for range 200 {
			l, want := make([]bool, 20), false
			for v := range l {
				l[v] = dice.Intn(3) == 0
			}
			for v := 0; v < 20; v += 2 {
				want = want || l[v] && l[v+1]
			}
			if value(s, f, l) != want {
				t.Fatalf("wrong under %v", l)
			}
		}
	}
	// All even variables ahead of all odd ones: 2^11 - 2 nodes.
	var done []int
	for v := 2; v < 20; v += 2 {
		for level := v - 1; level >= v/2; level-- {
			expect(t, "Swap", s.Swap(level), api.OK)
			done = append(done, level)
		}
	}
	check()
	s.Collect()
	counts(t, s, 2046, 0)
	for _, level := range slices.Backward(done) {
		expect(t, "Swap back", s.Swap(level), api.OK)
	}
	check()
	s.Collect()
	counts(t, s, 20, 0)
	for v := range 20 {
		if s.Level(v) != v {
			t.Error(s.Order())
		}
	}
}
