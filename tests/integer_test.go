package tests

import (
	"math"
	"strings"
	"testing"

	"loop.example/g03003/impl"
)

func TestMaxValue(t *testing.T) {
	if impl.MaxValue != 1000000000000 {
		t.Errorf("MaxValue is %d", impl.MaxValue)
	}
}

func TestFormatInt(t *testing.T) {
	cases := []struct {
		n    int
		want string
	}{
		{0, "0"},
		{7, "7"},
		{10, "10"},
		{120, "120"},
		{-1, "-1"},
		{-3, "-3"},
		{-10, "-10"},
		{impl.MaxValue, "1000000000000"},
		{impl.MaxValue + 1, "1000000000001"},
		{-impl.MaxValue, "-1000000000000"},
		{math.MaxInt, "9223372036854775807"},
		{math.MinInt, "-9223372036854775808"},
		{math.MinInt + 1, "-9223372036854775807"},
	}
	for _, c := range cases {
		if got := impl.FormatInt(c.n); got != c.want {
			t.Errorf("FormatInt(%d) is %q, not %q", c.n, got, c.want)
		}
	}
}

func TestParseIntTakesDecimalForms(t *testing.T) {
	cases := []struct {
		s    string
		want int
	}{
		{"0", 0},
		{"1", 1},
		{"9", 9},
		{"10", 10},
		{"17", 17},
		{"100", 100},
		{"1234567890", 1234567890},
		{"999999999999", impl.MaxValue - 1},
		{"1000000000000", impl.MaxValue},
	}
	for _, c := range cases {
		if got, ok := impl.ParseInt(c.s); !ok || got != c.want {
			t.Errorf("ParseInt(%q) is %d, %t, not %d, true", c.s, got, ok, c.want)
		}
	}
}

func TestParseIntInvertsFormatInt(t *testing.T) {
	check := func(n int) {
		if got, ok := impl.ParseInt(impl.FormatInt(n)); !ok || got != n {
			t.Errorf("ParseInt(FormatInt(%d)) is %d, %t", n, got, ok)
		}
	}
	for n := range 20000 {
		check(n)
	}
	for n := 1; n <= impl.MaxValue; n *= 10 {
		check(n - 1)
		check(n)
		check(n / 7)
	}
	for n := 0; n <= impl.MaxValue; n += 123456789 {
		check(n)
		check(impl.MaxValue - n)
	}
}

func TestParseIntRejectsOtherTexts(t *testing.T) {
	texts := []string{
		"",
		// leading zeros
		"00", "01", "017", "000", "0000000000001", "01000000000000",
		// signs
		"-", "+", "-1", "+1", "-0", "+0", "--1", "+-1", "1-", "1+", "-1000000000000",
		// out of range
		"1000000000001", "1000000000010", "9999999999999", "10000000000000",
		"9223372036854775807", "9223372036854775808", "-9223372036854775808",
		"18446744073709551616", "18446744073709551633", "340282366920938463463374607431768211473",
		strings.Repeat("9", 1000), "1" + strings.Repeat("0", 1000), strings.Repeat("0", 1000),
		// other characters
		"a", "x1", "1x", "1x1", "0x11", "0b1", "0o7", "1e3", "1.0", "1.", ".1", "1,000", "1_000", "_1", "1_",
		"/", ":", "1/", "1:", "\x00", "1\x00", "\x001", "\xff", "1\xff",
		// white space
		" ", " 1", "1 ", "1 2", "\t1", "1\n", "\n",
		// digits of other scripts
		"\u0661", "\u0967", "\uff11", "1\uff11",
	}
	for _, s := range texts {
		if got, ok := impl.ParseInt(s); ok || got != 0 {
			t.Errorf("ParseInt(%q) is %d, %t, not 0, false", s, got, ok)
		}
	}
}

func TestParseIntRejectsNegativeForms(t *testing.T) {
	for n := -1; n > -2000; n-- {
		if got, ok := impl.ParseInt(impl.FormatInt(n)); ok || got != 0 {
			t.Errorf("ParseInt(%q) is %d, %t, not 0, false", impl.FormatInt(n), got, ok)
		}
	}
}

// Every text of one or two bytes is taken exactly if it is a decimal form.
func TestParseIntOnShortTexts(t *testing.T) {
	forms := map[string]int{}
	for n := range 100 {
		forms[impl.FormatInt(n)] = n
	}
	check := func(s string) {
		want, valid := forms[s]
		if got, ok := impl.ParseInt(s); ok != valid || got != want {
			t.Errorf("ParseInt(%q) is %d, %t, not %d, %t", s, got, ok, want, valid)
		}
	}
	for a := range 256 {
		check(string([]byte{byte(a)}))
		for b := range 256 {
			check(string([]byte{byte(a), byte(b)}))
		}
	}
}

func TestMinAndMax(t *testing.T) {
	cases := []struct{ a, b, least, greatest int }{
		{2, -1, -1, 2},
		{-1, 2, -1, 2},
		{1, 2, 1, 2},
		{2, 1, 1, 2},
		{-2, -1, -2, -1},
		{-1, -2, -2, -1},
		{5, 5, 5, 5},
		{0, 0, 0, 0},
		{0, 3, 0, 3},
		{0, -3, -3, 0},
		{math.MinInt, math.MaxInt, math.MinInt, math.MaxInt},
		{math.MaxInt, math.MinInt, math.MinInt, math.MaxInt},
		{math.MinInt, 1, math.MinInt, 1},
		{math.MaxInt, -1, -1, math.MaxInt},
		{math.MinInt, math.MinInt, math.MinInt, math.MinInt},
	}
	for _, c := range cases {
		if got := impl.Min(c.a, c.b); got != c.least {
			t.Errorf("Min(%d, %d) is %d, not %d", c.a, c.b, got, c.least)
		}
		if got := impl.Max(c.a, c.b); got != c.greatest {
			t.Errorf("Max(%d, %d) is %d, not %d", c.a, c.b, got, c.greatest)
		}
	}
}

func TestCeilDiv(t *testing.T) {
	const most = impl.MaxValue
	cases := []struct{ a, b, want int }{
		{7, 3, 3},
		{6, 3, 2},
		{8, 3, 3},
		{9, 3, 3},
		{10, 3, 4},
		{0, 1, 0},
		{0, 5, 0},
		{1, 1, 1},
		{1, 5, 1},
		{5, 5, 1},
		{6, 5, 2},
		{most, 1, most},
		{most - 1, 1, most - 1},
		{most, 2, most / 2},
		{most, 3, 333333333334},
		{most, most, 1},
		{most, most - 1, 2},
		{most - 1, most, 1},
		{1, most, 1},
		{0, most, 0},
		// out of range
		{1, 0, 0},
		{0, 0, 0},
		{7, -3, 0},
		{-1, 1, 0},
		{-1, 2, 0},
		{-1, most, 0},
		{-7, 3, 0},
		{-7, -3, 0},
		{most + 1, 1, 0},
		{most + 1, 3, 0},
		{1, most + 1, 0},
		{most, most + 1, 0},
		{most + 1, most + 1, 0},
		{math.MaxInt, 1, 0},
		{math.MaxInt, math.MaxInt, 0},
		{1, math.MaxInt, 0},
		{math.MinInt, 1, 0},
		{math.MinInt, -1, 0},
		{1, math.MinInt, 0},
	}
	for _, c := range cases {
		if got := impl.CeilDiv(c.a, c.b); got != c.want {
			t.Errorf("CeilDiv(%d, %d) is %d, not %d", c.a, c.b, got, c.want)
		}
	}
}

// The quotient rounded up is the least number of bs that reach a.
func TestCeilDivIsLeast(t *testing.T) {
	for a := range 60 {
		for b := 1; b <= 60; b++ {
			q := impl.CeilDiv(a, b)
			if q*b < a || (q-1)*b >= a {
				t.Errorf("CeilDiv(%d, %d) is %d", a, b, q)
			}
		}
	}
}

func TestMod(t *testing.T) {
	const most = impl.MaxValue
	cases := []struct{ p, q, want int }{
		{-1, 7, 6},
		{-6, 7, 1},
		{-7, 7, 0},
		{-8, 7, 6},
		{-15, 7, 6},
		{15, 7, 1},
		{14, 7, 0},
		{6, 7, 6},
		{7, 7, 0},
		{0, 7, 0},
		{0, 1, 0},
		{5, 1, 0},
		{-5, 1, 0},
		{3, most, 3},
		{-1, most, most - 1},
		{most, most, 0},
		{most + 1, most, 1},
		{-most, most, 0},
		{-most - 1, most, most - 1},
		{math.MaxInt, 1, 0},
		{math.MinInt, 1, 0},
		{math.MaxInt, 10, 7},
		{math.MinInt, 10, 2},
		{math.MaxInt, most, 36854775807},
		{math.MinInt, most, most - 36854775808},
		// out of range
		{3, 0, 0},
		{-3, 0, 0},
		{3, -1, 0},
		{3, -7, 0},
		{-3, -7, 0},
		{3, most + 1, 0},
		{-3, most + 1, 0},
		{3, math.MaxInt, 0},
		{3, math.MinInt, 0},
		{math.MinInt, -1, 0},
		{math.MinInt, math.MinInt, 0},
	}
	for _, c := range cases {
		if got := impl.Mod(c.p, c.q); got != c.want {
			t.Errorf("Mod(%d, %d) is %d, not %d", c.p, c.q, got, c.want)
		}
	}
}

// The remainder is in range and differs from p by a multiple of q.
func TestModIsRemainder(t *testing.T) {
	for p := -100; p <= 100; p++ {
		for q := 1; q <= 40; q++ {
			r := impl.Mod(p, q)
			if r < 0 || r >= q || (p-r)%q != 0 {
				t.Errorf("Mod(%d, %d) is %d", p, q, r)
			}
		}
	}
}

func TestInRange(t *testing.T) {
	cases := []struct {
		n, low, high int
		want         bool
	}{
		{2, 2, 3, true},
		{3, 2, 3, true},
		{1, 2, 3, false},
		{4, 2, 3, false},
		{5, 0, 10, true},
		{2, 2, 2, true},
		{1, 2, 2, false},
		{3, 2, 2, false},
		{0, -1, 1, true},
		{-2, -3, -1, true},
		{-4, -3, -1, false},
		{0, -3, -1, false},
		// no number is in an empty range
		{2, 3, 1, false},
		{3, 3, 1, false},
		{1, 3, 1, false},
		{0, math.MinInt, math.MaxInt, true},
		{math.MinInt, math.MinInt, math.MaxInt, true},
		{math.MaxInt, math.MinInt, math.MaxInt, true},
		{math.MinInt, 0, math.MaxInt, false},
		{math.MaxInt, math.MinInt, 0, false},
		{0, math.MaxInt, math.MinInt, false},
	}
	for _, c := range cases {
		if got := impl.InRange(c.n, c.low, c.high); got != c.want {
			t.Errorf("InRange(%d, %d, %d) is %t", c.n, c.low, c.high, got)
		}
	}
}
