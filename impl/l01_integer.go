package impl

import (
	"errors"
	"strconv"
)

// MaxValue is the largest integer that the encodings of this module carry.
const MaxValue = 1000000000000

// errNotInteger is the reason for which a text is not taken as an integer.
var errNotInteger = errors.New("not the decimal form of an integer from 0 to MaxValue")

// FormatInt returns the decimal form of n.
func FormatInt(n int) string {
	return strconv.Itoa(n)
}

// ParseInt returns the integer from 0 to MaxValue whose decimal form is s.
func ParseInt(s string) (int, bool) {
	n, err := parseDecimal(s)
	if errors.Is(err, errNotInteger) {
		return 0, false
	}
	return n, true
}

// parseDecimal returns the integer that s stands for, or errNotInteger.
func parseDecimal(s string) (int, error) {
	n, err := strconv.Atoi(s)
	if err != nil || !InRange(n, 0, MaxValue) {
		return 0, errNotInteger
	}
	// Atoi also reads "+1", "-0" and "017", none of which FormatInt writes.
	if FormatInt(n) != s {
		return 0, errNotInteger
	}
	return n, nil
}

// Min returns the smaller of a and b.
func Min(a int, b int) int {
	return extreme(false, a, b)
}

// Max returns the larger of a and b.
func Max(a int, b int) int {
	return extreme(true, a, b)
}

// extreme returns the largest of the numbers, or the smallest.
func extreme(largest bool, first int, others ...int) int {
	best := first
	for _, n := range others {
		if (n > best) == largest {
			best = n
		}
	}
	return best
}

// CeilDiv returns a divided by b, rounded up; 0 if one of them is out of range.
func CeilDiv(a int, b int) int {
	if !InRange(a, 0, MaxValue) || !InRange(b, 1, MaxValue) {
		return 0
	}
	return (a + b - 1) / b
}

// Mod returns the remainder of p modulo q, never negative; 0 if q is out of range.
func Mod(p int, q int) int {
	if !InRange(q, 1, MaxValue) {
		return 0
	}
	r := p % q
	// Go's remainder has the sign of p.
	if r < 0 {
		r += q
	}
	return r
}

// InRange reports whether n is from low to high, both included.
func InRange(n int, low int, high int) bool {
	return low <= n && n <= high
}
