package endless_test

import (
	"math"
	"math/rand"
	"strings"
	"testing"

	"voussoir/api"
	"voussoir/atlas"
	"voussoir/dd"
	"voussoir/endless"
	"voussoir/frontier"
	"voussoir/image"
	"voussoir/rel"
	"voussoir/sample"
	"voussoir/typing"
)

// ways tells between which states of p there is a path of at least one transition within p.
func ways(w atlas.World, p uint64) [][]bool {
	n := len(w.Graph.States)
	path := make([][]bool, n)
	for i, next := range w.Graph.Next {
		path[i] = make([]bool, n)
		for _, k := range next {
			path[i][k] = w.In(p, i) && w.In(p, k)
		}
	}
	for by := range n {
		for i := range n {
			for k := range n {
				path[i][k] = path[i][k] || path[i][by] && path[by][k]
			}
		}
	}
	return path
}

// wanted returns the states of p from which one comes to a cycle, and those to which one comes from a cycle; the cycles meet all fairness constraints, if that is asked for.
func wanted(w atlas.World, p uint64, fair bool) (from, to uint64) {
	path := ways(w, p)
	some := func(holds func(k int) bool) bool {
		for k := range path {
			if holds(k) {
				return true
			}
		}
		return false
	}
	cycle := func(i int) bool {
		for c := range w.Rel.Fair() {
			if fair && !some(func(k int) bool { return w.Graph.Fair[k][c] && path[i][k] && path[k][i] }) {
				return false
			}
		}
		return path[i][i]
	}
	from = w.Where(func(i int) bool { return some(func(k int) bool { return cycle(k) && (k == i || path[i][k]) }) })
	to = w.Where(func(i int) bool { return some(func(k int) bool { return cycle(k) && (k == i || path[k][i]) }) })
	return from, to
}

func TestTheFourKinds(t *testing.T) {
	r := rand.New(rand.NewSource(1))
	unfair, oneWay := 0, 0
	for range 400 {
		w := atlas.Some(t, r, 10)
		p := (r.Uint64() | r.Uint64()) & w.Full()
		h := w.Set(p)
		from, to := wanted(w, p, false)
		fairFrom, fairTo := wanted(w, p, true)
		w.Disturb()
		w.GivesSet("Plain from", from)(endless.Plain(w.Rel, h, image.Pre))
		w.GivesSet("Plain to", to)(endless.Plain(w.Rel, h, image.Post))
		w.Disturb()
		w.GivesSet("Fair from", fairFrom)(endless.Fair(w.Rel, h, image.Pre))
		w.GivesSet("Fair to", fairTo)(endless.Fair(w.Rel, h, image.Post))
		if fairFrom != from {
			unfair++
		}
		if fairFrom != fairTo && fairFrom != 0 {
			oneWay++
		}
	}
	if unfair < 50 || oneWay < 20 {
		t.Error(unfair, oneWay)
	}
}

// What a way fails for is handed on, and nothing is left.
func TestAWayThatFails(t *testing.T) {
	w := atlas.Of(t, rand.New(rand.NewSource(2)), "var x : 0 .. 7; trans next(x) = x + 1 | x = 7; fair x = 5; fair x mod 3 = 1;")
	h := w.Set(0b11110111)
	for about, call := range map[string]func(r *rel.Rel, p int, way frontier.Way) (int, api.Errno){"Plain": endless.Plain, "Fair": endless.Fair} {
		steps, most := 0, math.MaxInt
		way := func(r *rel.Rel, set int) (int, api.Errno) {
			if steps++; steps > most {
				return 0, api.ErrKind
			}
			return image.Pre(r, set)
		}
		w.GivesSet(about, 0b11110000)(call(w.Rel, h, way))
		needed := steps
		for most = range needed {
			steps = 0
			w.Fails(about, api.ErrKind)(call(w.Rel, h, way))
		}
		if needed < 3 {
			t.Error(about, needed)
		}
	}
}

// There is no limit of steps.
func TestManySteps(t *testing.T) {
	closed := strings.Replace(sample.Chain, "trans !c;", "fair c; fair a = 0 & b = 1;", 1)
	for _, x := range []struct {
		text string
		path bool
	}{{sample.Chain, false}, {closed, true}} {
		mod := sample.Model(t, x.text)
		m, e := dd.New(2*typing.Bits(mod), 1<<18)
		if e != api.OK {
			t.Fatal(e)
		}
		r, e := rel.New(m, mod)
		if e != api.OK {
			t.Fatal(e)
		}
		m.Plan(api.Event{After: math.MaxInt, Kind: api.EvCollect})
		for _, way := range []frontier.Way{image.Pre, image.Post} {
			h, e := endless.Fair(r, r.Valid(), way)
			if empty, _ := m.Same(h, 0); empty == x.path || e != api.OK {
				t.Error(x.text, h, e)
			}
		}
	}
}

func TestEmptySets(t *testing.T) {
	for _, s := range []string{"", "invar false;", "trans false; fair true;"} {
		w := atlas.Of(t, rand.New(rand.NewSource(3)), s)
		all := uint64(0)
		if s == "" {
			all = w.Full()
		}
		for _, p := range []uint64{0, w.Full()} {
			h, e := w.Put(p, w.Now())
			if e != api.OK {
				t.Fatal(e)
			}
			for _, way := range []frontier.Way{image.Pre, image.Post} {
				got, e := endless.Fair(w.Rel, h, way)
				if w.Read(got, w.Now()) != all&p || e != api.OK {
					t.Error(s, p, got, e)
				}
			}
		}
	}
}
