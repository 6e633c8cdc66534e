package cnt_test

import (
	"math"
	"math/big"
	"slices"
	"strings"
	"testing"

	"voussoir/api"
	"voussoir/cnt"
)

// valueOf returns the number that a denotes, normalized or not.
func valueOf(a cnt.Nat) *big.Int {
	n := new(big.Int)
	for i := len(a) - 1; i >= 0; i-- {
		n.Lsh(n, 32)
		n.Or(n, big.NewInt(int64(a[i])))
	}
	return n
}

// nats are numbers around the ends of the digits, each also with leading zeros.
func nats() []cnt.Nat {
	all := uint32(math.MaxUint32)
	l := []cnt.Nat{
		nil, {1}, {2}, {3}, {9}, {10}, {999999999}, {1000000000}, {1 << 31}, {all - 1}, {all}, {0, 1}, {1, 1}, {all, 1},
		{0, 1 << 31}, {all, all}, {0, 0, 1}, {5, 0, 1}, {all, all, all}, {0, 0, 0, 1}, {1, 2, 3, 4, 5}, {all, 0, all, 0, all, 0, 1},
		{0x89e80000, 0x8ac72304, 0}, slices.Repeat(cnt.Nat{all}, 40), append(make(cnt.Nat, 40), 7),
	}
	for _, a := range slices.Clone(l) {
		l = append(l, append(slices.Clone(a), 0), append(slices.Clone(a), 0, 0, 0))
	}
	return l
}

func check(t *testing.T, call string, a cnt.Nat, want *big.Int) {
	t.Helper()
	if valueOf(a).Cmp(want) != 0 {
		t.Errorf("%s = %v; want %v", call, valueOf(a), want)
	}
	if len(a) > 0 && a[len(a)-1] == 0 {
		t.Errorf("%s = %v is not normalized", call, a)
	}
}

func TestOfAndInt(t *testing.T) {
	for _, n := range []uint64{0, 1, math.MaxUint32, 1 << 32, 1<<32 + 1, 1 << 63, math.MaxUint64} {
		a := cnt.Of(n)
		check(t, "Of", a, new(big.Int).SetUint64(n))
		if m, ok := cnt.Int(a); m != n || !ok {
			t.Errorf("Int(%v) = %d, %v", a, m, ok)
		}
	}
	for _, a := range nats() {
		n, ok := cnt.Int(a)
		if value := valueOf(a); ok != value.IsUint64() || ok && n != value.Uint64() || !ok && n != 0 {
			t.Errorf("Int(%v) = %d, %v", a, n, ok)
		}
	}
}

func TestRight(t *testing.T) {
	for _, a := range nats() {
		if cnt.Right(a) != (len(a) == 0 || a[len(a)-1] != 0) {
			t.Errorf("Right(%v)", a)
		}
	}
	if !cnt.Right(nil) || !cnt.Right(cnt.Nat{}) || cnt.Right(cnt.Nat{0}) || cnt.Right(cnt.Nat{5, 0}) || !cnt.Right(cnt.Nat{0, 5}) {
		t.Error("Right")
	}
}

func TestTwoNumbers(t *testing.T) {
	for _, a := range nats() {
		for _, b := range nats() {
			x, y := valueOf(a), valueOf(b)
			check(t, "Add", cnt.Add(a, b), new(big.Int).Add(x, y))
			check(t, "Mul", cnt.Mul(a, b), new(big.Int).Mul(x, y))
			if cnt.Cmp(a, b) != x.Cmp(y) || cnt.Cmp(b, a) != -x.Cmp(y) {
				t.Errorf("Cmp(%v, %v) = %d", a, b, cnt.Cmp(a, b))
			}
			d, ok := cnt.Sub(a, b)
			if ok != (x.Cmp(y) >= 0) {
				t.Errorf("Sub(%v, %v): %v", a, b, ok)
			}
			if ok {
				check(t, "Sub", d, new(big.Int).Sub(x, y))
			} else if d != nil {
				t.Errorf("Sub(%v, %v) = %v", a, b, d)
			}
		}
	}
}

func TestAddOfMany(t *testing.T) {
	check(t, "Add", cnt.Add(), new(big.Int))
	check(t, "Add", cnt.Add(nil, cnt.Nat{0, 0}, nil), new(big.Int))
	check(t, "Add", cnt.Add(cnt.Nat{7, 0}), big.NewInt(7))
	sum := new(big.Int)
	for _, a := range nats() {
		sum.Add(sum, valueOf(a))
	}
	check(t, "Add", cnt.Add(nats()...), sum)
	many := slices.Repeat([]cnt.Nat{{math.MaxUint32}}, 5000)
	check(t, "Add", cnt.Add(many...), big.NewInt(5000*math.MaxUint32))
}

func TestShift(t *testing.T) {
	for _, a := range nats() {
		for _, k := range []int{math.MinInt, -1, 0, 1, 2, 31, 32, 33, 63, 64, 65, 4064, 4095, 4096, 4097, 5000, math.MaxInt} {
			clamped := uint(max(0, min(4096, k)))
			check(t, "Shift", cnt.Shift(a, k), new(big.Int).Lsh(valueOf(a), clamped))
		}
	}
}

func TestHalf(t *testing.T) {
	for _, a := range nats() {
		x := valueOf(a)
		h, odd := cnt.Half(a)
		check(t, "Half", h, new(big.Int).Rsh(x, 1))
		if odd != (x.Bit(0) == 1) {
			t.Errorf("Half(%v) odd %v", a, odd)
		}
	}
}

func TestDerived(t *testing.T) {
	for _, a := range nats() {
		if h, odd := cnt.Half(cnt.Shift(a, 1)); odd || cnt.Cmp(h, a) != 0 {
			t.Errorf("Half does not undo Shift of %v: %v, %v", a, h, odd)
		}
		for _, b := range nats() {
			if d, ok := cnt.Sub(cnt.Add(a, b), b); !ok || cnt.Cmp(d, a) != 0 {
				t.Errorf("Sub does not undo Add of %v, %v", a, b)
			}
			c := cnt.Nat{6, 0, 7, 0}
			if cnt.Cmp(cnt.Mul(c, cnt.Add(a, b)), cnt.Add(cnt.Mul(c, a), cnt.Mul(c, b))) != 0 {
				t.Errorf("Mul does not distribute over %v + %v", a, b)
			}
		}
	}
}

func TestTextAndParse(t *testing.T) {
	for _, a := range nats() {
		s := cnt.Text(a)
		if s != valueOf(a).String() {
			t.Errorf("Text(%v) = %s", a, s)
		}
		b, e := cnt.Parse(s)
		check(t, "Parse", b, valueOf(a))
		if e != api.OK {
			t.Errorf("Parse(%s): %d", s, e)
		}
	}
	for k := range 60 {
		s := "1" + strings.Repeat("0", k)
		if a, e := cnt.Parse(s); e != api.OK || cnt.Text(a) != s {
			t.Errorf("%s: %v, %d", s, a, e)
		}
	}
	a, e := cnt.Parse("4294967296")
	if e != api.OK || !slices.Equal(a, cnt.Nat{0, 1}) || cnt.Text(cnt.Mul(a, a)) != "18446744073709551616" {
		t.Error(a, e)
	}
}

func TestParseErrors(t *testing.T) {
	cases := []struct {
		s string
		e api.Errno
	}{
		{"0", api.OK}, {"9", api.OK}, {"10", api.OK},
		{"", api.ErrForm}, {"00", api.ErrForm}, {"01", api.ErrForm}, {"-1", api.ErrForm}, {"-0", api.ErrForm}, {"+1", api.ErrForm},
		{" 1", api.ErrForm}, {"1 ", api.ErrForm}, {"1a", api.ErrForm}, {"/", api.ErrForm}, {":", api.ErrForm}, {"1_0", api.ErrForm},
		{"１", api.ErrForm}, {"1\x00", api.ErrForm}, {"\xff", api.ErrForm},
		{strings.Repeat("9", 2000), api.OK},
		{"0" + strings.Repeat("9", 1999), api.ErrForm},
		{strings.Repeat("9", 1999) + "x", api.ErrForm},
		{strings.Repeat("9", 2001), api.ErrLong},
		{"0" + strings.Repeat("9", 2000), api.ErrLong},
		{strings.Repeat("x", 2001), api.ErrLong},
	}
	for _, c := range cases {
		a, e := cnt.Parse(c.s)
		if e != c.e {
			t.Errorf("Parse(%.20q): %d; want %d", c.s, e, c.e)
		}
		if e != api.OK && len(a) != 0 || e == api.OK && cnt.Text(a) != c.s {
			t.Errorf("Parse(%.20q) = %v", c.s, a)
		}
	}
}

func TestArgumentsStayAsTheyAre(t *testing.T) {
	whole := cnt.Nat{5, 7, 9, 11}
	a := whole[:2]
	kept := cnt.Nat{5, 7, 9, 11}
	for name, f := range map[string]func() cnt.Nat{
		"Add of one": func() cnt.Nat { return cnt.Add(a) },
		"Add":        func() cnt.Nat { return cnt.Add(a, whole, cnt.Nat{math.MaxUint32, math.MaxUint32}) },
		"Add of nil": func() cnt.Nat { return cnt.Add(nil, a) },
		"Sub":        func() cnt.Nat { d, _ := cnt.Sub(a, nil); return d },
		"Mul":        func() cnt.Nat { return cnt.Mul(a, cnt.Of(1)) },
		"Shift":      func() cnt.Nat { return cnt.Shift(a, 0) },
		"Shift by 8": func() cnt.Nat { return cnt.Shift(a, 8) },
		"Half":       func() cnt.Nat { h, _ := cnt.Half(a); return h },
		"Text":       func() cnt.Nat { cnt.Text(a); return nil },
		"Cmp":        func() cnt.Nat { cnt.Cmp(a, whole); return nil },
	} {
		for l := f(); len(l) > 0; l = l[1:] {
			l[0] = 100
		}
		if !slices.Equal(whole, kept) {
			t.Fatalf("%s: the argument is now %v", name, whole)
		}
	}
}
