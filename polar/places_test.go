package polar_test

import (
	"math"
	"slices"
	"testing"

	"roamwave/api"
	"roamwave/polar"
)

func TestPlacesByHand(t *testing.T) {
	for _, x := range []struct {
		n, k int
		want []int
	}{
		{1, 0, nil}, {1, 1, []int{0}},
		{2, 1, []int{1}}, {2, 2, []int{0, 1}},
		{4, 1, []int{3}}, {4, 2, []int{2, 3}}, {4, 3, []int{1, 2, 3}},
		{8, 0, nil}, {8, 1, []int{7}}, {8, 2, []int{6, 7}}, {8, 4, []int{3, 5, 6, 7}}, {8, 5, []int{3, 4, 5, 6, 7}},
		// 8 is worth 1681: more than 4 with 1414, less than 3 with 2189.
		{16, 11, []int{3, 5, 6, 7, 9, 10, 11, 12, 13, 14, 15}},
		{16, 12, []int{3, 5, 6, 7, 8, 9, 10, 11, 12, 13, 14, 15}},
		{512, 2, []int{510, 511}},
		{512, 4, []int{507, 509, 510, 511}},
	} {
		got, err := polar.Places(x.n, x.k)
		if err != api.OK || !slices.Equal(got, x.want) {
			t.Errorf("Places(%d, %d): %v, %v; want %v", x.n, x.k, got, err, x.want)
		}
	}
}

func TestPlacesAsSpelt(t *testing.T) {
	for _, n := range sizes {
		better := betterThan(n)
		for k := range n + 1 {
			got, err := polar.Places(n, k)
			if want := ahead(better, k); err != api.OK || !slices.Equal(got, want) {
				t.Errorf("Places(%d, %d): %v, %v; want %v", n, k, got, err, want)
			}
		}
	}
}

func TestPlacesRefuses(t *testing.T) {
	refused := func(n, k int) {
		t.Helper()
		if got, err := polar.Places(n, k); err != api.ErrArg || got != nil {
			t.Errorf("Places(%d, %d): %v, %v; want ErrArg alone", n, k, got, err)
		}
	}
	for _, n := range wrongSizes {
		for _, k := range []int{0, 1, n, -1, math.MinInt, math.MaxInt} {
			refused(n, k)
		}
	}
	for _, n := range sizes {
		for _, k := range []int{-1, n + 1, 2 * n, math.MinInt, math.MaxInt} {
			refused(n, k)
		}
	}
}
