package frontier_test

import (
	"math/rand"
	"slices"
	"testing"

	"voussoir/api"
	"voussoir/atlas"
	"voussoir/frontier"
	"voussoir/image"
	"voussoir/rel"
)

// loop is a model with the transitions 0 to 1, 1 to 2, 2 to 4, 4 to 0, and 3 to 4. Three of the eight lists of its bits are those of no state.
const loop = "var x : 0 .. 4; next x := if x = 1 then 2 else if x = 2 then 4 else if x = 4 then 0 else x + 1;"

// world returns the world of a model and the step to the successors there.
func world(t *testing.T, s string) (w atlas.World, post func(set int) (int, api.Errno)) {
	w = atlas.Of(t, rand.New(rand.NewSource(1)), s)
	return w, func(set int) (int, api.Errno) { return image.Post(w.Rel, set) }
}

// goes returns a check that a search has gone on to a frontier with that table.
func goes(w atlas.World, s *frontier.Search, want uint64) func(more bool, e api.Errno) {
	return func(more bool, e api.Errno) {
		w.T.Helper()
		if got := w.Read(s.Last(), w.Now()); got != want || more != (want != 0) || e != api.OK {
			w.T.Fatalf("%b, %v, %d; want %b", got, more, e, want)
		}
	}
}

func TestSearch(t *testing.T) {
	w, post := world(t, loop)
	from := w.Set(0b10100010)
	owned := w.M.Handles()
	s := frontier.New(w.Rel, from, post)
	goes(w, s, 0b00010)(s.Next())
	goes(w, s, 0b00100)(s.Next())
	w.GivesSet("Met", 0b00110)(s.Met())
	if e := s.Keep(); e != api.OK {
		t.Error(e)
	}
	goes(w, s, 0b10000)(s.Next())
	goes(w, s, 0b00001)(s.Next())
	goes(w, s, 0)(s.Next())
	goes(w, s, 0)(s.Next())
	w.GivesSet("Met", 0b10111)(s.Met())
	if e := s.Keep(); e != api.OK {
		t.Error(e)
	}
	l := s.Take()
	if len(l) != 2 || w.Read(l[0], w.Now()) != 0b00100 || w.Read(l[1], w.Now()) != 0 || len(s.Take()) != 0 {
		t.Error(l)
	}
	s.Keep()
	s.Close()
	if w.M.Handles() != owned+2 || w.M.Drop(l...) != api.OK {
		t.Error(w.M.Handles(), owned)
	}
}

func TestAmong(t *testing.T) {
	w, _ := world(t, loop)
	p := w.Set(0b11110)
	for _, x := range []struct{ set, post, pre uint64 }{
		{0, 0, 0},
		{0b10001, 0b00010, 0b11100},
		{0b01001, 0b10010, 0b10000},
		{0b10100010, 0b00100, 0},
	} {
		set := w.Set(x.set)
		w.GivesSet("Post", x.post)(frontier.Among(w.Rel, p, image.Post)(set))
		w.GivesSet("Pre", x.pre)(frontier.Among(w.Rel, p, image.Pre)(set))
		w.Fails("a way", api.ErrKind)(frontier.Among(w.Rel, p, func(*rel.Rel, int) (int, api.Errno) { return 0, api.ErrKind })(set))
	}
	w.Fails("a set", api.ErrHandle)(frontier.Among(w.Rel, -1, image.Post)(p))
}

func TestAll(t *testing.T) {
	w, post := world(t, loop)
	from, some := w.Set(0b10100010), w.Set(0b00111)
	owned := w.M.Handles()
	w.GivesSet("All", 0b10111)(frontier.New(w.Rel, from, post).All())
	w.GivesSet("All", 0b00110)(frontier.New(w.Rel, from, frontier.Among(w.Rel, some, image.Post)).All())
	w.GivesSet("All", 0)(frontier.New(w.Rel, 0, post).All())
	steps := 0
	failing := func(set int) (int, api.Errno) {
		if steps++; steps > 2 {
			return 0, api.ErrKind
		}
		return post(set)
	}
	w.Fails("All", api.ErrKind)(frontier.New(w.Rel, from, failing).All())
	if w.M.Handles() != owned {
		t.Error(w.M.Handles(), owned)
	}
}

func TestList(t *testing.T) {
	w, post := world(t, loop)
	want := []uint64{0b00010, 0b00100, 0b10000, 0b00001}
	from := w.Set(want[0])
	for most := range 7 {
		for kept := range 2 {
			owned := w.M.Handles()
			s := frontier.New(w.Rel, from, post)
			for range kept {
				s.Next()
				s.Keep()
			}
			l, whole, e := s.List(most)
			s.Close()
			many := max(kept, min(most, len(want)))
			if len(l) != many || whole != (many == len(want)) || e != api.OK || w.M.Handles() != owned+many {
				t.Fatal(most, kept, l, whole, e, w.M.Handles(), owned)
			}
			for i, h := range l {
				if got := w.Read(h, w.Now()); got != want[i] {
					t.Errorf("%d: %b", i, got)
				}
			}
			w.M.Drop(l...)
		}
	}
}

// What a step fails for is handed on, and nothing is left.
func TestAStepThatFails(t *testing.T) {
	w, post := world(t, loop)
	from := w.Set(0b1)
	for good := range 5 {
		owned, steps := w.M.Handles(), 0
		s := frontier.New(w.Rel, from, func(set int) (int, api.Errno) {
			steps++
			if steps > good {
				return 0, api.ErrKind
			}
			return post(set)
		})
		l, whole, e := s.List(9)
		s.Close()
		want := api.ErrKind
		if good == 4 {
			want = api.OK
		}
		if w.M.Drop(l...) != api.OK || whole != (want == api.OK) || e != want || w.M.Handles() != owned {
			t.Error(good, l, whole, e, w.M.Handles(), owned)
		}
	}
}

func TestPath(t *testing.T) {
	w, _ := world(t, "var x : 0 .. 5; trans next(x) = x + 1 | next(x) = x + 2 | next(x) = x - 3;")
	const some = 0b01110111 // but not 3
	p := w.Set(some)
	for _, x := range []struct {
		from, to uint64
		want     []int // within all states
		among    []int // within p
	}{
		{0b000100, 0b000100, []int{2}, []int{2}},
		{0b110110, 0b101100, []int{2}, []int{2}},
		{0b000001, 0b110000, []int{0, 2, 4}, []int{0, 2, 4}},
		{0b000001, 0b100000, []int{0, 1, 3, 5}, []int{0, 2, 4, 5}},
		{0b000010, 0b001000, []int{1, 3}, nil},
		{0b001000, 0b000001, []int{3, 0}, nil},
		{0b001010, 0b000001, []int{3, 0}, nil},
		{0b001010, 0b010000, []int{3, 4}, []int{1, 2, 4}},
		{0b100000, 0b010010, []int{5, 2, 4}, []int{5, 2, 4}},
		{0b11000001, 0b10000100, []int{0, 2}, []int{0, 2}},
		{0, 0b111111, nil, nil},
		{0b111111, 0b11000000, nil, nil},
	} {
		from, e := w.Put(x.from, w.Now())
		if e != api.OK {
			t.Fatal(e)
		}
		to := w.Set(x.to)
		owned := w.M.Handles()
		for p, want := range map[int][]int{1: x.want, p: x.among} {
			fault := api.OK
			if want == nil {
				fault = api.ErrPath
			}
			path, e := frontier.Path(w.Rel, from, to, p)
			if !slices.Equal(slices.Concat(path...), want) || len(path) != len(want) || e != fault || w.M.Handles() != owned {
				t.Errorf("%b, %b: %v, %d; want %v", x.from, x.to, path, e, want)
			}
		}
	}
}

func TestDown(t *testing.T) {
	w, _ := world(t, "var x : 0 .. 5; trans next(x) = x + 1 | next(x) = x + 2 | next(x) = x - 3;")
	for _, x := range []struct {
		sets  []uint64 // from the lowest one on
		s     int
		want  []int
		fails api.Errno
	}{
		{nil, 5, []int{5}, api.OK},
		{[]uint64{0b000010}, 4, []int{4, 1}, api.OK},
		{[]uint64{0b111111}, 2, []int{2, 3}, api.OK},
		{[]uint64{0b110111}, 2, []int{2, 4}, api.OK},
		{[]uint64{0b000010, 0b110000}, 2, []int{2, 4, 1}, api.OK},
		{[]uint64{0b111000, 0b001110, 0b000001}, 3, []int{3, 0, 1, 3}, api.OK},
		{[]uint64{0b001000, 0b001110, 0b000001, 0b111111}, 2, []int{2, 3, 0, 1, 3}, api.OK},
		{[]uint64{0b000010}, 2, nil, api.ErrPath},
		{[]uint64{0b111111, 0b000000}, 2, nil, api.ErrPath},
		{[]uint64{0b000001, 0b111111}, 0, nil, api.ErrPath},
		{[]uint64{0b11000000}, 5, nil, api.ErrPath},
	} {
		owned := w.M.Handles()
		var l []int
		for _, values := range x.sets {
			l = append(l, w.Set(values))
		}
		start := []int{x.s}
		path, e := frontier.Down(w.Rel, append(l, 0), len(l), start)
		var got []int
		for _, s := range path {
			got = append(got, s...)
		}
		if !slices.Equal(got, x.want) || len(path) != len(got) || e != x.fails || w.M.Handles() != owned+len(l) {
			t.Error(x, path, e, w.M.Handles(), owned)
		}
		if e == api.OK {
			path[0][0]++
		}
		if start[0] != x.s {
			t.Error("memory in common with an argument")
		}
		w.M.Drop(l...)
	}
}
