// Package num implements checked integer arithmetic and decimal integers. See shared/doc/01-num.md.
package num

import (
	"math"
	"math/bits"

	"voussoir/api"
)

const (
	maxPower  = 53
	limit     = 1 << maxPower
	maxDigits = 20 // those of 2^63, and a sign
)

// Add returns a + b if the sum is in [-2^53, 2^53].
func Add(a, b int) (n int, ok bool) {
	sum := a + b
	wrapped := (a < 0) == (b < 0) && (a < 0) != (sum < 0)
	if wrapped || sum < -limit || sum > limit {
		return 0, false
	}
	return sum, true
}

// Mul returns a * b if the product is in [-2^53, 2^53].
func Mul(a, b int) (n int, ok bool) {
	over, low := bits.Mul64(size(a), size(b))
	if over != 0 || low > limit {
		return 0, false
	}
	if (a < 0) != (b < 0) {
		return -int(low), true
	}
	return int(low), true
}

// size returns the absolute value of n; as a uint64, because the one of the least int is no int.
func size(n int) uint64 {
	if n < 0 {
		return -uint64(n)
	}
	return uint64(n)
}

// Pow2 returns 2^k for k in [0, 53].
func Pow2(k int) (n int, ok bool) {
	if k < 0 || k > maxPower {
		return 0, false
	}
	n = 1
	for range k {
		n *= 2
	}
	return n, true
}

// Bits returns the smallest k such that 2^k >= n.
func Bits(n int) int {
	for k := range bits.UintSize - 1 {
		if 1<<k >= n {
			return k
		}
	}
	return bits.UintSize - 1
}

// Near returns the bound that n exceeds, or n; the lower bound is tested first.
func Near(n, lo, hi int) int {
	if n < lo {
		return lo
	}
	return min(n, hi)
}

// Text returns the decimal representation of n.
func Text(n int) string {
	var digits [maxDigits]byte
	first := maxDigits
	for rest := size(n); rest > 0 || first == maxDigits; rest /= 10 {
		first--
		digits[first] = byte('0' + rest%10)
	}
	if n < 0 {
		first--
		digits[first] = '-'
	}
	return string(digits[first:])
}

// Parse returns the integer whose Text is s, if it is in [least, most].
func Parse(s string, least, most int) (n int, e api.Errno) {
	digits, negative := s, false
	if len(s) > 0 && s[0] == '-' {
		digits, negative = s[1:], true
	}
	if !decimal(digits) || negative && digits == "0" {
		return 0, api.ErrForm
	}
	n, ok := value(digits, negative)
	if !ok || n < least || n > most {
		return 0, api.ErrRange
	}
	return n, api.OK
}

// decimal reports whether s consists of digits, without a leading zero.
func decimal(s string) bool {
	for i := range len(s) {
		if s[i] < '0' || s[i] > '9' {
			return false
		}
	}
	return s == "0" || len(s) > 0 && s[0] != '0'
}

// value returns the number that the digits and the sign denote, if it is an int.
func value(digits string, negative bool) (n int, ok bool) {
	greatest := size(math.MaxInt)
	if negative {
		greatest = size(math.MinInt)
	}
	sum := uint64(0)
	for i := range len(digits) {
		digit := uint64(digits[i] - '0')
		if sum > (greatest-digit)/10 {
			return 0, false
		}
		sum = sum*10 + digit
	}
	if negative {
		return int(-sum), true
	}
	return int(sum), true
}
