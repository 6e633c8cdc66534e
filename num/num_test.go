package num_test

import (
	"math"
	"math/big"
	"strconv"
	"strings"
	"testing"

	"voussoir/api"
	"voussoir/num"
)

const top = 1 << 53

// ends are ints at which a bound of the chapter or of the type int lies, with their neighbours.
func ends() []int {
	l := []int{0, math.MaxInt, math.MinInt}
	for _, n := range []int{1, 2, 3, 10, 1 << 26, 1 << 27, 1 << 31, 1 << 32, 1 << 33, top, 1 << 60, 1 << 62} {
		for d := -2; d <= 2; d++ {
			l = append(l, n+d, -n+d)
		}
	}
	return append(l, math.MaxInt-1, math.MaxInt-top, math.MinInt+1, math.MinInt+top)
}

// within returns what a checked operation has to answer for the mathematical result.
func within(n *big.Int) (int, bool) {
	bound := big.NewInt(top)
	if n.CmpAbs(bound) > 0 {
		return 0, false
	}
	return int(n.Int64()), true
}

func TestAddAndMulAreCheckedAtAllEnds(t *testing.T) {
	for _, a := range ends() {
		for _, b := range ends() {
			x, y := big.NewInt(int64(a)), big.NewInt(int64(b))
			want, wantOK := within(new(big.Int).Add(x, y))
			if n, ok := num.Add(a, b); n != want || ok != wantOK {
				t.Errorf("Add(%d, %d) = %d, %v", a, b, n, ok)
			}
			want, wantOK = within(new(big.Int).Mul(x, y))
			if n, ok := num.Mul(a, b); n != want || ok != wantOK {
				t.Errorf("Mul(%d, %d) = %d, %v", a, b, n, ok)
			}
		}
	}
}

func TestAddAndMulExamples(t *testing.T) {
	cases := []struct {
		op   func(a, b int) (int, bool)
		a, b int
		n    int
		ok   bool
	}{
		{num.Add, top - 1, 1, top, true},
		{num.Add, top, 1, 0, false},
		{num.Add, -top, 0, -top, true},
		{num.Add, -top, -1, 0, false},
		{num.Add, math.MaxInt, math.MinInt, -1, true},
		{num.Add, math.MinInt, math.MinInt, 0, false},
		{num.Add, math.MaxInt, math.MaxInt, 0, false},
		{num.Add, math.MaxInt, top - math.MaxInt, top, true},
		{num.Mul, 1 << 26, 1 << 27, top, true},
		{num.Mul, -1 << 26, 1 << 27, -top, true},
		{num.Mul, -1 << 26, -1 << 27, top, true},
		{num.Mul, 1<<26 + 1, 1 << 27, 0, false},
		{num.Mul, 1 << 32, 1 << 32, 0, false},
		{num.Mul, math.MinInt, -1, 0, false},
		{num.Mul, math.MinInt, 2, 0, false},
		{num.Mul, math.MinInt, 0, 0, true},
		{num.Mul, 3, -4, -12, true},
	}
	for _, c := range cases {
		if n, ok := c.op(c.a, c.b); n != c.n || ok != c.ok {
			t.Errorf("%d, %d: %d, %v; want %d, %v", c.a, c.b, n, ok, c.n, c.ok)
		}
	}
}

func TestPow2(t *testing.T) {
	for k := -3; k <= 130; k++ {
		want, wantOK := 0, k >= 0 && k <= 53
		if wantOK {
			want = 1 << k
		}
		if n, ok := num.Pow2(k); n != want || ok != wantOK {
			t.Errorf("Pow2(%d) = %d, %v", k, n, ok)
		}
	}
	for _, k := range []int{math.MinInt, math.MaxInt} {
		if n, ok := num.Pow2(k); n != 0 || ok {
			t.Errorf("Pow2(%d) = %d, %v", k, n, ok)
		}
	}
}

func TestBits(t *testing.T) {
	check := func(n int) {
		want := 0
		for power := big.NewInt(1); power.Cmp(big.NewInt(int64(n))) < 0; power.Lsh(power, 1) {
			want++
		}
		if k := num.Bits(n); k != want {
			t.Errorf("Bits(%d) = %d; want %d", n, k, want)
		}
	}
	for n := -3; n < 5000; n++ {
		check(n)
	}
	for _, n := range ends() {
		check(n)
	}
	if num.Bits(5) != 3 || num.Bits(math.MaxInt) != 63 || num.Bits(math.MinInt) != 0 {
		t.Error("Bits")
	}
}

func TestNear(t *testing.T) {
	cases := []struct{ n, lo, hi, want int }{
		{0, 1, 5, 1}, {1, 1, 5, 1}, {3, 1, 5, 3}, {5, 1, 5, 5}, {6, 1, 5, 5},
		{math.MinInt, -7, 7, -7}, {math.MaxInt, -7, 7, 7}, {4, 4, 4, 4},
		{5, 7, 3, 7}, {2, 7, 3, 7}, {7, 7, 3, 3}, {9, 7, 3, 3}, // the lower bound comes first
	}
	for _, c := range cases {
		if n := num.Near(c.n, c.lo, c.hi); n != c.want {
			t.Errorf("Near(%d, %d, %d) = %d; want %d", c.n, c.lo, c.hi, n, c.want)
		}
	}
}

func TestNearIsWithinAndIdempotent(t *testing.T) {
	for lo := -3; lo <= 3; lo++ {
		for hi := lo; hi <= 3; hi++ {
			for n := -5; n <= 5; n++ {
				m := num.Near(n, lo, hi)
				if m < lo || m > hi || num.Near(m, lo, hi) != m || n >= lo && n <= hi && m != n {
					t.Errorf("Near(%d, %d, %d) = %d", n, lo, hi, m)
				}
			}
		}
	}
}

func TestTextAndParseBack(t *testing.T) {
	l := ends()
	for n := -1200; n <= 1200; n++ {
		l = append(l, n)
	}
	for _, n := range l {
		s := num.Text(n)
		if s != strconv.Itoa(n) {
			t.Errorf("Text(%d) = %q", n, s)
		}
		if m, e := num.Parse(s, n, n); m != n || e != api.OK {
			t.Errorf("Parse(%q) = %d, %d", s, m, e)
		}
		for _, other := range []string{"0" + s, "+" + s, " " + s, s + " ", "-" + s, "-0" + s} {
			if s == strings.TrimPrefix(other, "-") && s[0] != '-' && n != 0 {
				continue // the text of -n
			}
			if m, e := num.Parse(other, n, n); m != 0 || e != api.ErrForm {
				t.Errorf("Parse(%q) = %d, %d", other, m, e)
			}
		}
	}
}

func TestParseForm(t *testing.T) {
	nines := strings.Repeat("9", 5000)
	for _, s := range []string{
		"", "-", "--1", "-0", "00", "01", "012", "-012", "+1", "1-", "1 ", " 1", "\t1", "1\n", "1a", "a", "0x1", "1_0", "1e3", "1.0",
		"/", ":", "１", "−1", "\xff", "1\x00", nines + "x", "-" + nines + "/", "0" + nines,
	} {
		if n, e := num.Parse(s, math.MinInt, math.MaxInt); n != 0 || e != api.ErrForm {
			t.Errorf("Parse(%q) = %d, %d", s, n, e)
		}
		if n, e := num.Parse(s, 5, 4); n != 0 || e != api.ErrForm {
			t.Errorf("Parse(%q) in an empty range = %d, %d", s, n, e)
		}
	}
}

func TestParseRange(t *testing.T) {
	cases := []struct {
		s           string
		least, most int
		n           int
		e           api.Errno
	}{
		{"-12", -12, 0, -12, api.OK},
		{"-13", -12, 0, 0, api.ErrRange},
		{"0", -12, 0, 0, api.OK},
		{"1", -12, 0, 0, api.ErrRange},
		{"7", 7, 7, 7, api.OK},
		{"7", 8, 6, 0, api.ErrRange},
		{"9223372036854775807", math.MinInt, math.MaxInt, math.MaxInt, api.OK},
		{"9223372036854775807", math.MinInt, math.MaxInt - 1, 0, api.ErrRange},
		{"9223372036854775808", math.MinInt, math.MaxInt, 0, api.ErrRange},
		{"-9223372036854775808", math.MinInt, math.MaxInt, math.MinInt, api.OK},
		{"-9223372036854775808", math.MinInt + 1, math.MaxInt, 0, api.ErrRange},
		{"-9223372036854775809", math.MinInt, math.MaxInt, 0, api.ErrRange},
		{"18446744073709551616", math.MinInt, math.MaxInt, 0, api.ErrRange}, // 2^64, and what wraps round to 1
		{"18446744073709551617", math.MinInt, math.MaxInt, 0, api.ErrRange},
		{"-18446744073709551617", math.MinInt, math.MaxInt, 0, api.ErrRange},
		{"1" + strings.Repeat("0", 5000), math.MinInt, math.MaxInt, 0, api.ErrRange},
		{"-1" + strings.Repeat("0", 5000), math.MinInt, math.MaxInt, 0, api.ErrRange},
	}
	for _, c := range cases {
		if n, e := num.Parse(c.s, c.least, c.most); n != c.n || e != c.e {
			t.Errorf("Parse(%.30q, %d, %d) = %d, %d; want %d, %d", c.s, c.least, c.most, n, e, c.n, c.e)
		}
	}
}
