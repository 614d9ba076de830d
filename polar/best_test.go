package polar

import (
	"slices"
	"testing"
)

// TestBestOfOneWorth: no two places of a code have one worth, so the rule for such can be seen here alone.
func TestBestOfOneWorth(t *testing.T) {
	for _, x := range []struct {
		worth []int
		k     int
		want  []int
	}{
		{[]int{5, 5, 5, 5}, 1, []int{3}},
		{[]int{5, 5, 5, 5}, 2, []int{2, 3}},
		{[]int{5, 5, 5, 5}, 3, []int{1, 2, 3}},
		{[]int{7, 5, 5, 1}, 2, []int{0, 2}},
		{[]int{7, 5, 5, 1}, 3, []int{0, 1, 2}},
		{[]int{1, 9, 9, 9, 1}, 4, []int{1, 2, 3, 4}},
	} {
		if got := best(x.worth, x.k); !slices.Equal(got, x.want) {
			t.Errorf("best(%v, %d): %v, want %v", x.worth, x.k, got, x.want)
		}
	}
}

func TestNoTwoOfOneWorth(t *testing.T) {
	of := map[int]int{}
	for place := range maxSize {
		if other, there := of[worthOf(place)]; there {
			t.Errorf("%d and %d have one worth", other, place)
		}
		of[worthOf(place)] = place
	}
}
