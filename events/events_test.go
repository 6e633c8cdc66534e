package events_test

import (
	"math"
	"math/big"
	"math/rand"
	"slices"
	"strings"
	"testing"

	"voussoir/api"
	"voussoir/dd"
	"voussoir/events"
)

func collect(after int) api.Event { return api.Event{After: after, Kind: api.EvCollect} }
func turn(after int) api.Event    { return api.Event{After: after, Kind: api.EvTurn} }
func swap(after, level int) api.Event {
	return api.Event{After: after, Kind: api.EvSwap, Level: level}
}

func TestTheExamples(t *testing.T) {
	if s, e := events.Text(swap(3, 1), collect(1)); s != "swap 3 1\ncollect 1\n" || e != api.OK {
		t.Error(s, e)
	}
	if l, e := events.Parse("turn 7\n"); !slices.Equal(l, []api.Event{turn(7)}) || e != api.OK {
		t.Error(l, e)
	}
	if e := events.Right(2, swap(1, 1)); e != api.ErrRange {
		t.Error(e)
	}
}

func TestRight(t *testing.T) {
	many := slices.Repeat([]api.Event{collect(1)}, api.MaxEvents)
	for _, x := range []struct {
		vars int
		l    []api.Event
		want api.Errno
	}{
		{-1, nil, api.ErrRange}, {65, nil, api.ErrRange}, {math.MinInt, nil, api.ErrRange}, {math.MaxInt, []api.Event{{}}, api.ErrRange}, {65, append(many, turn(1)), api.ErrRange},
		{0, nil, api.OK}, {64, nil, api.OK}, {0, []api.Event{collect(1), turn(math.MaxInt)}, api.OK},
		{0, []api.Event{swap(1, 0)}, api.ErrRange}, {1, []api.Event{swap(1, 0)}, api.ErrRange}, {2, []api.Event{swap(1, 0)}, api.OK},
		{64, []api.Event{swap(1, 62)}, api.OK}, {64, []api.Event{swap(1, 63)}, api.ErrRange}, {64, []api.Event{swap(1, -1)}, api.ErrRange},
		{3, []api.Event{{}}, api.ErrKind}, {3, []api.Event{{After: 1, Kind: 4}}, api.ErrKind}, {3, []api.Event{collect(0)}, api.ErrRange}, {3, []api.Event{turn(-1)}, api.ErrRange},
		{3, []api.Event{collect(1), swap(0, 0), {}}, api.ErrRange}, {3, []api.Event{collect(1), {}, swap(0, 0)}, api.ErrKind},
		{3, []api.Event{{After: 1, Kind: api.EvTurn, Level: 9}}, api.OK},
		{3, many, api.OK}, {3, append(many, turn(1)), api.ErrMany}, {3, append(many, api.Event{}), api.ErrMany},
	} {
		if got := events.Right(x.vars, x.l...); got != x.want {
			t.Errorf("Right(%d, %.99v): %d; want %d", x.vars, x.l, got, x.want)
		}
		if m, e := dd.New(x.vars, 9); e == api.OK && m.Plan(x.l...) != x.want {
			t.Errorf("Plan(%.99v) in a manager of %d variables: not %d", x.l, x.vars, x.want)
		}
	}
}

func TestText(t *testing.T) {
	for _, x := range []struct {
		l    []api.Event
		want string
	}{
		{nil, ""},
		{[]api.Event{collect(1), turn(1), swap(1, 0)}, "collect 1\nturn 1\nswap 1 0\n"},
		{[]api.Event{swap(math.MaxInt, math.MaxInt)}, "swap 9223372036854775807 9223372036854775807\n"},
		{[]api.Event{turn(1 << 20), turn(1 << 20)}, "turn 1048576\nturn 1048576\n"},
		{slices.Repeat([]api.Event{collect(10)}, api.MaxEvents), strings.Repeat("collect 10\n", api.MaxEvents)},
	} {
		if s, e := events.Text(x.l...); s != x.want || e != api.OK {
			t.Errorf("Text(%.99v): %.99q, %d", x.l, s, e)
		}
		if l, e := events.Parse(x.want); !slices.Equal(l, x.l) || e != api.OK {
			t.Errorf("Parse(%.99q): %.99v, %d", x.want, l, e)
		}
	}
}

func TestTextRefuses(t *testing.T) {
	many := slices.Repeat([]api.Event{collect(1)}, api.MaxEvents)
	for _, x := range []struct {
		l    []api.Event
		want api.Errno
	}{
		{[]api.Event{{}}, api.ErrKind}, {[]api.Event{{After: 1, Kind: 4}}, api.ErrKind}, {[]api.Event{{After: -1, Kind: -1, Level: -1}}, api.ErrKind}, {[]api.Event{{Kind: math.MaxInt}}, api.ErrKind},
		{[]api.Event{collect(0)}, api.ErrRange}, {[]api.Event{turn(-1)}, api.ErrRange}, {[]api.Event{swap(0, 0)}, api.ErrRange}, {[]api.Event{swap(math.MinInt, 0)}, api.ErrRange},
		{[]api.Event{swap(1, -1)}, api.ErrRange}, {[]api.Event{swap(1, math.MinInt)}, api.ErrRange},
		{[]api.Event{{After: 1, Kind: api.EvCollect, Level: 1}}, api.ErrRange}, {[]api.Event{{After: 1, Kind: api.EvTurn, Level: 1}}, api.ErrRange}, {[]api.Event{{After: 1, Kind: api.EvTurn, Level: -1}}, api.ErrRange},
		{[]api.Event{turn(1), turn(0), {}}, api.ErrRange}, {[]api.Event{turn(1), {}, turn(0)}, api.ErrKind},
		{append(many, turn(1)), api.ErrMany}, {append([]api.Event{{}}, many...), api.ErrMany},
	} {
		if s, e := events.Text(x.l...); s != "" || e != x.want {
			t.Errorf("Text(%.99v): %q, %d; want %d", x.l, s, e, x.want)
		}
	}
}

func TestParseRefuses(t *testing.T) {
	for _, s := range []string{
		"\n", " ", "collect", "collect\n", "collect \n", "collect 1", "collect 1\n\n", "\ncollect 1\n", "collect 1\r\n", " collect 1\n", "collect 1 \n", "collect  1\n", "collect\t1\n", "collect1\n",
		"collect 0\n", "collect 00\n", "collect 01\n", "collect -1\n", "collect +1\n", "collect x\n", "collect 1x\n", "collect 1 0\n", "collect 1 1\n", "collect 9223372036854775808\n", "Collect 1\n", "colect 1\n", "collected 1\n",
		"turn 1 0\n", "turn 0\n", "turn\n", "turn 1\ncollect 1", "turn 1 collect 1\n", "turn 1;\n", "TURN 1\n",
		"swap\n", "swap 1\n", "swap 1 \n", "swap 1 -1\n", "swap 1 00\n", "swap 1 -0\n", "swap 0 1\n", "swap 1 1 1\n", "swap 1  1\n", "swap 1 x\n", "swap 1 9223372036854775808\n", "swap 1\n1\n",
		"1 swap 1\n", "1 1\n", "event 1\n", strings.Repeat("turn 1\n", api.MaxEvents+1), strings.Repeat("x", api.MaxText),
	} {
		if l, e := events.Parse(s); l != nil || e != api.ErrForm {
			t.Errorf("Parse(%.99q): %v, %d", s, l, e)
		}
	}
	for _, s := range []string{strings.Repeat("x", api.MaxText+1), strings.Repeat("turn 1\n", api.MaxText/7+1)} {
		if l, e := events.Parse(s); l != nil || e != api.ErrLong {
			t.Error(len(l), e)
		}
	}
}

// Whatever Parse accepts is the Text of what it returns.
func TestParseOfRandomTexts(t *testing.T) {
	r := rand.New(rand.NewSource(28))
	pieces := []string{"collect ", "collect", "swap ", "swap 1 ", "turn ", "turn", "turn 1\n", "0", "1", "2", "1\n", "7\n", "1 3\n", " ", "\n", "-", "x"}
	right := 0
	for range 200000 {
		s := ""
		for range r.Intn(7) {
			s += pieces[r.Intn(len(pieces))]
		}
		l, e := events.Parse(s)
		if e != api.OK {
			if e != api.ErrForm {
				t.Fatalf("%q: %d", s, e)
			}
			continue
		}
		right++
		if text, e := events.Text(l...); text != s || e != api.OK {
			t.Fatalf("%q: %q, %d", s, text, e)
		}
	}
	if right < 1000 {
		t.Error(right)
	}
}

// spread computes with numbers of any size what Spread is to return.
func spread(seed uint64, many, most, vars int) (l []api.Event) {
	x := new(big.Int).SetUint64(seed)
	factor, _ := new(big.Int).SetString("6364136223846793005", 10)
	summand, _ := new(big.Int).SetString("1442695040888963407", 10)
	modulus := new(big.Int).Exp(big.NewInt(2), big.NewInt(64), nil)
	part := new(big.Int).Exp(big.NewInt(2), big.NewInt(33), nil)
	draw := func(modulus2 int64) int {
		x.Mul(x, factor).Add(x, summand).Mod(x, modulus)
		drawn := new(big.Int).Div(x, part)
		return int(drawn.Mod(drawn, big.NewInt(modulus2)).Int64())
	}
	many, most = min(max(many, 0), 256), min(max(most, 1), 1048576)
	levels := max(int64(vars)-1, 1)
	for range many {
		a, b, c := draw(int64(most)), draw(3), draw(levels)
		switch {
		case b == 0 || b == 1 && vars < 2:
			l = append(l, collect(1+a))
		case b == 1:
			l = append(l, swap(1+a, c))
		default:
			l = append(l, turn(1+a))
		}
	}
	return l
}

func TestSpread(t *testing.T) {
	ints := []int{math.MinInt, -1, 0, 1, 2, 3, 17, 64, 255, 256, 257, 1 << 20, 1<<20 + 1, math.MaxInt}
	for _, seed := range []uint64{0, 1, 2, 12345, 1 << 63, math.MaxUint64} {
		for _, many := range []int{math.MinInt, -1, 0, 1, 5, 256, 257, math.MaxInt} {
			for _, most := range ints {
				for _, vars := range ints {
					if got, want := events.Spread(seed, many, most, vars), spread(seed, many, most, vars); !slices.Equal(got, want) {
						t.Fatalf("Spread(%d, %d, %d, %d): %.200v; want %.200v", seed, many, most, vars, got, want)
					}
				}
			}
		}
	}
}

func TestWhatSpreadGeneratesIsRight(t *testing.T) {
	r := rand.New(rand.NewSource(29))
	kinds := map[int]int{}
	for vars := range api.MaxVars + 1 {
		for range 20 {
			l := events.Spread(r.Uint64(), r.Intn(300), r.Intn(1<<21), vars)
			if e := events.Right(vars, l...); e != api.OK {
				t.Fatal(vars, e, l)
			}
			s, e := events.Text(l...)
			if e != api.OK {
				t.Fatal(e)
			}
			if again, e := events.Parse(s); !slices.Equal(again, l) || e != api.OK {
				t.Fatal(e)
			}
			for _, event := range l {
				kinds[event.Kind]++
			}
		}
	}
	for kind := api.EvCollect; kind <= api.EvTurn; kind++ {
		if kinds[kind] < 1000 {
			t.Error(kinds)
		}
	}
}
