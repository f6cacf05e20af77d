package tests

import (
	"math"
	"slices"
	"testing"

	"loop.example/g03003/impl"
)

func TestEqualInts(t *testing.T) {
	cases := []struct {
		a, b []int
		want bool
	}{
		{nil, nil, true},
		{nil, []int{}, true},
		{[]int{}, []int{}, true},
		{[]int{0}, []int{0}, true},
		{[]int{1, -2, math.MaxInt, math.MinInt}, []int{1, -2, math.MaxInt, math.MinInt}, true},
		{nil, []int{0}, false},
		{[]int{}, []int{0}, false},
		{[]int{1, 2}, []int{1, 2, 0}, false},
		{[]int{1, 2, 3}, []int{1, 2, 4}, false},
		{[]int{1, 2, 3}, []int{0, 2, 3}, false},
		{[]int{1, 2}, []int{2, 1}, false},
		{[]int{1}, []int{-1}, false},
		{[]int{1}, []int{1 + 1<<32}, false},
		{[]int{math.MaxInt}, []int{math.MinInt}, false},
	}
	for _, c := range cases {
		if got := impl.EqualInts(c.a, c.b); got != c.want {
			t.Errorf("EqualInts(%v, %v) is %t", c.a, c.b, got)
		}
		if got := impl.EqualInts(c.b, c.a); got != c.want {
			t.Errorf("EqualInts(%v, %v) is %t", c.b, c.a, got)
		}
	}
}

func TestEqualIntsKeepsItsArguments(t *testing.T) {
	a, b := []int{3, 1, 2, 9}, []int{3, 1, 2, 8}
	impl.EqualInts(a[:3], b[:3])
	if !slices.Equal(a, []int{3, 1, 2, 9}) || !slices.Equal(b, []int{3, 1, 2, 8}) {
		t.Errorf("EqualInts changed its arguments: %v, %v", a, b)
	}
}
