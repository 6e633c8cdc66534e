// Package cnt implements arbitrary-precision natural numbers. See shared/doc/04-cnt.md.
package cnt

import (
	"cmp"
	"slices"

	"voussoir/api"
)

const (
	width       = 32   // bits of a digit
	maxShift    = 4096 // bits
	maxText     = 2000 // bytes
	group       = 1000000000
	groupDigits = 9 // the zeros of group, the greatest power of ten in one digit
)

// Nat is a natural number in base 2^32, least significant digit first.
type Nat []uint32

// Of returns n as a Nat.
func Of(n uint64) Nat {
	return trim(Nat{uint32(n), uint32(n >> width)})
}

// trim cuts the leading zeros off.
func trim(a Nat) Nat {
	for !Right(a) {
		a = a[:len(a)-1]
	}
	return a
}

// Right reports whether a is normalized.
func Right(a Nat) bool {
	return len(a) == 0 || a[len(a)-1] != 0
}

// Add returns the sum of its arguments.
func Add(l ...Nat) Nat {
	var sum Nat
	for _, a := range l {
		sum = increase(sum, a)
	}
	return trim(sum)
}

// increase adds a to sum, which it overwrites.
func increase(sum, a Nat) Nat {
	carry := uint64(0)
	for i := 0; i < len(a) || carry > 0; i++ {
		if i == len(sum) {
			sum = append(sum, 0)
		}
		if i < len(a) {
			carry += uint64(a[i])
		}
		carry += uint64(sum[i])
		sum[i] = uint32(carry)
		carry >>= width
	}
	return sum
}

// Sub returns a - b, unless a < b.
func Sub(a, b Nat) (d Nat, ok bool) {
	if Cmp(a, b) < 0 {
		return nil, false
	}
	d = make(Nat, len(a))
	borrow := uint64(0)
	for i, digit := range a {
		take := borrow
		if i < len(b) {
			take += uint64(b[i])
		}
		left := uint64(digit) - take
		d[i] = uint32(left)
		borrow = left >> width & 1
	}
	return trim(d), true
}

// Mul returns the product.
func Mul(a, b Nat) Nat {
	p := make(Nat, len(a)+len(b))
	for i, x := range a {
		carry := uint64(0)
		for j, y := range b {
			carry += uint64(x)*uint64(y) + uint64(p[i+j])
			p[i+j] = uint32(carry)
			carry >>= width
		}
		p[i+len(b)] = uint32(carry)
	}
	return trim(p)
}

// Shift returns a * 2^k.
func Shift(a Nat, k int) Nat {
	k = min(max(k, 0), maxShift)
	s := make(Nat, k/width+len(a)+1)
	copy(s[k/width:], a)
	for range k % width {
		double(s)
	}
	return trim(s)
}

// double doubles a in place; the last digit has to have room for the carry.
func double(a Nat) {
	carry := uint32(0)
	for i, digit := range a {
		a[i] = digit<<1 | carry
		carry = digit >> (width - 1)
	}
}

// Half returns a / 2 rounded down, and reports whether a is odd.
func Half(a Nat) (h Nat, odd bool) {
	h = make(Nat, len(a))
	carry := uint32(0)
	for i := len(a) - 1; i >= 0; i-- {
		h[i] = a[i]>>1 | carry<<(width-1)
		carry = a[i] & 1
	}
	return trim(h), carry == 1
}

// Cmp returns -1, 0 or 1 if a is less than, equal to or greater than b.
func Cmp(a, b Nat) int {
	a, b = trim(a), trim(b)
	if len(a) != len(b) {
		return cmp.Compare(len(a), len(b))
	}
	for i := len(a) - 1; i >= 0; i-- {
		if a[i] != b[i] {
			return cmp.Compare(a[i], b[i])
		}
	}
	return 0
}

// Int returns a as a uint64, if it is less than 2^64.
func Int(a Nat) (n uint64, ok bool) {
	a = trim(a)
	if len(a) > 2 {
		return 0, false
	}
	for i, digit := range a {
		n |= uint64(digit) << (i * width)
	}
	return n, true
}

// Text returns the decimal representation of a.
func Text(a Nat) string {
	rest := slices.Clone(trim(a))
	var text []byte // from the end on, because the last digits come first
	for len(rest) > 0 {
		low := divide(rest, group)
		rest = trim(rest)
		for i := 0; i < groupDigits && (low > 0 || len(rest) > 0); i++ {
			text = append(text, byte('0'+low%10))
			low /= 10
		}
	}
	if len(text) == 0 {
		return "0"
	}
	slices.Reverse(text)
	return string(text)
}

// divide divides a by n in place and returns the remainder.
func divide(a Nat, n uint32) uint32 {
	rest := uint64(0)
	for i := len(a) - 1; i >= 0; i-- {
		rest = rest<<width | uint64(a[i])
		a[i] = uint32(rest / uint64(n))
		rest %= uint64(n)
	}
	return uint32(rest)
}

// Parse returns the number whose Text is s.
func Parse(s string) (a Nat, e api.Errno) {
	if len(s) > maxText {
		return nil, api.ErrLong
	}
	if s == "" || s[0] == '0' && s != "0" {
		return nil, api.ErrForm
	}
	for i := range len(s) {
		if s[i] < '0' || s[i] > '9' {
			return nil, api.ErrForm
		}
		a = scale(a, 10, uint32(s[i]-'0'))
	}
	return trim(a), api.OK
}

// scale returns a * n + more; it overwrites a.
func scale(a Nat, n, more uint32) Nat {
	carry := uint64(more)
	for i, digit := range a {
		carry += uint64(digit) * uint64(n)
		a[i] = uint32(carry)
		carry >>= width
	}
	if carry > 0 {
		a = append(a, uint32(carry))
	}
	return a
}
