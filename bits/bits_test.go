package bits_test

import (
	"math"
	"slices"
	"strings"
	"testing"

	"voussoir/api"
	"voussoir/bits"
)

func TestOf(t *testing.T) {
	for _, n := range []uint64{0, 1, 6, 0x8000000000000001, math.MaxUint64, 0x0123456789abcdef} {
		for _, many := range []int{math.MinInt, -1, 0, 1, 4, 63, 64, 65, math.MaxInt} {
			l := bits.Of(n, many)
			if len(l) != max(0, min(64, many)) {
				t.Fatalf("Of(%d, %d) has length %d", n, many, len(l))
			}
			for i, yes := range l {
				if yes != (n>>i&1 == 1) {
					t.Errorf("Of(%d, %d)[%d] = %v", n, many, i, yes)
				}
			}
		}
	}
	if !slices.Equal(bits.Of(6, 4), []bool{false, true, true, false}) {
		t.Error(bits.Of(6, 4))
	}
}

func TestNumUndoesOf(t *testing.T) {
	for _, n := range []uint64{0, 1, 6, 1 << 63, math.MaxUint64, 0x0123456789abcdef} {
		for many := range 65 {
			want := n
			if many < 64 {
				want = n % (1 << many)
			}
			l := bits.Of(n, many)
			if bits.Num(l) != want || !slices.Equal(bits.Of(bits.Num(l), many), l) {
				t.Errorf("%d, %d: Num is %d", n, many, bits.Num(l))
			}
		}
	}
}

func TestNumCountsTheFirst64(t *testing.T) {
	if bits.Num(nil) != 0 || bits.Num([]bool{}) != 0 {
		t.Error("empty")
	}
	long := make([]bool, 200)
	long[63] = true
	for i := 64; i < len(long); i++ {
		long[i] = true
	}
	if bits.Num(long) != 1<<63 {
		t.Error(bits.Num(long))
	}
}

func TestNextVisitsAllLists(t *testing.T) {
	for many := range 7 {
		l := make([]bool, many)
		for n := range 1 << many {
			if bits.Num(l) != uint64(n) || len(l) != many {
				t.Fatalf("list %d of length %d is %v", n, many, l)
			}
			l = bits.Next(l)
		}
		if slices.Contains(l, true) || len(l) != many {
			t.Errorf("the last list of length %d leads to %v", many, l)
		}
	}
}

func TestNextOfLongLists(t *testing.T) {
	l := make([]bool, 300)
	for i := range 299 {
		l[i] = true
	}
	want := make([]bool, 300)
	want[299] = true
	if next := bits.Next(l); !slices.Equal(next, want) {
		t.Error("the carry stops before the end")
	}
	l[299] = true
	if next := bits.Next(l); len(next) != 300 || slices.Contains(next, true) {
		t.Error("the longest list does not lead to the first")
	}
	if len(bits.Next(nil)) != 0 {
		t.Error("empty")
	}
}

func TestNextIsNewMemory(t *testing.T) {
	l := []bool{true, false, true, true}[:3]
	next := bits.Next(l)
	if !slices.Equal(l[:4], []bool{true, false, true, true}) {
		t.Error("the argument was changed", l[:4])
	}
	next[2] = false
	if !l[2] {
		t.Error("the result shares memory with the argument")
	}
}

func TestLess(t *testing.T) {
	order := []string{"", "0", "00", "000", "001", "01", "010", "011", "1", "10", "100", "101", "11", "110", "111"}
	for i, s := range order {
		for j, r := range order {
			a, _ := bits.Parse(s)
			b, _ := bits.Parse(r)
			if bits.Less(a, b) != (i < j) {
				t.Errorf("Less(%q, %q) = %v", s, r, i >= j)
			}
		}
	}
	if bits.Less(nil, []bool{}) || !bits.Less(nil, []bool{false}) {
		t.Error("empty")
	}
}

func TestText(t *testing.T) {
	if s := bits.Text([]bool{false, true, true, false}); s != "0110" {
		t.Error(s)
	}
	if s := bits.Text(nil); s != "" {
		t.Error(s)
	}
	if s := bits.Text(make([]bool, 5000)); s != strings.Repeat("0", 5000) {
		t.Error(len(s))
	}
}

func TestParseInvertsText(t *testing.T) {
	for many := range 9 {
		for n := range 1 << many {
			l := bits.Of(uint64(n), many)
			if k, e := bits.Parse(bits.Text(l)); e != api.OK || !slices.Equal(k, l) {
				t.Errorf("%v: %v, %d", l, k, e)
			}
		}
	}
}

func TestParseErrors(t *testing.T) {
	cases := []struct {
		s string
		e api.Errno
	}{
		{"", api.OK}, {"011", api.OK}, {"012", api.ErrForm}, {"/", api.ErrForm}, {"2", api.ErrForm}, {" 01", api.ErrForm},
		{"01\n", api.ErrForm}, {"\x00", api.ErrForm}, {"\x01", api.ErrForm}, {"-1", api.ErrForm}, {"０", api.ErrForm}, {"\xff", api.ErrForm},
		{strings.Repeat("1", 4096), api.OK},
		{strings.Repeat("1", 4097), api.ErrLong},
		{strings.Repeat("1", 4095) + "x", api.ErrForm},
		{strings.Repeat("1", 4096) + "x", api.ErrLong},
		{strings.Repeat("x", 4097), api.ErrLong},
	}
	for _, c := range cases {
		l, e := bits.Parse(c.s)
		if e != c.e {
			t.Errorf("Parse(%.20q): %d; want %d", c.s, e, c.e)
		}
		if e == api.OK && bits.Text(l) != c.s || e != api.OK && len(l) != 0 {
			t.Errorf("Parse(%.20q): %d elements", c.s, len(l))
		}
	}
}

func TestAll(t *testing.T) {
	for _, many := range []int{math.MinInt, -1, 0, 1, 2, 3, 11, 12, 13, math.MaxInt} {
		length := max(0, min(api.MaxTable, many))
		n := 0
		for l := range bits.All(many) {
			if len(l) != length || bits.Num(l) != uint64(n) {
				t.Fatalf("All(%d): list %d is %v", many, n, l)
			}
			n++
		}
		if n != 1<<length {
			t.Errorf("All(%d) has %d lists", many, n)
		}
	}
}

func TestAllStopsAndStartsAnew(t *testing.T) {
	all := bits.All(3)
	for range 2 {
		n := 0
		for l := range all {
			if bits.Num(l) != uint64(n) {
				t.Errorf("list %d is %v", n, l)
			}
			n++
			if n == 5 {
				break
			}
		}
		if n != 5 {
			t.Error(n)
		}
	}
}

func TestAllGivesListsOfTheirOwn(t *testing.T) {
	var kept [][]bool
	for l := range bits.All(2) {
		kept = append(kept, l)
	}
	for _, l := range kept {
		l[0] = true
	}
	if bits.Text(kept[0]) != "10" || bits.Text(kept[2]) != "11" || bits.Text(kept[1]) != "10" {
		t.Error(kept)
	}
}
