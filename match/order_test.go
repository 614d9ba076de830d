package match_test

import (
	"slices"
	"testing"

	"roamwave/api"
	"roamwave/match"
)

func TestOrderByHand(t *testing.T) {
	for n, want := range map[int][]int{
		0:  {},
		1:  {0},
		2:  {0, 1},
		3:  {0, 2, 1},
		4:  {0, 2, 1, 3},
		5:  {0, 4, 2, 1, 3},
		7:  {0, 4, 2, 6, 1, 5, 3},
		8:  {0, 4, 2, 6, 1, 5, 3, 7},
		9:  {0, 8, 4, 2, 6, 1, 5, 3, 7},
		10: {0, 8, 4, 2, 6, 1, 9, 5, 3, 7},
		16: {0, 8, 4, 12, 2, 10, 6, 14, 1, 9, 5, 13, 3, 11, 7, 15},
		21: {0, 8, 16, 4, 12, 20, 2, 10, 18, 6, 14, 1, 9, 17, 5, 13, 3, 11, 19, 7, 15},
	} {
		got, err := match.Order(n)
		if err != api.OK || !slices.Equal(got, want) {
			t.Errorf("Order(%d): %v, %v; want %v", n, got, err, want)
		}
	}
}

// TestOrderIsReadFromTheTable: for every length that may be, and each number comes once.
func TestOrderIsReadFromTheTable(t *testing.T) {
	for n := range api.MaxBits + 1 {
		got, err := match.Order(n)
		if err != api.OK || !slices.Equal(got, spokenOrder(n)) {
			t.Fatalf("Order(%d): %v, %v", n, got, err)
		}
		slices.Sort(got)
		for i, x := range got {
			if x != i {
				t.Fatalf("Order(%d): %d does not come once", n, i)
			}
		}
	}
}

func TestOrderOfWrong(t *testing.T) {
	for _, n := range wrongNumbers {
		if got, err := match.Order(n); got != nil || err != api.ErrArg {
			t.Errorf("Order(%d): %d numbers, %v", n, len(got), err)
		}
	}
}
