package grid_test

import (
	"slices"
	"testing"

	"roamwave/api"
)

// TestExample: of one block, a share at the times 3 and 4 has 8 and 12 places.
func TestExample(t *testing.T) {
	g := api.Grid{Blocks: 1, Shares: []api.Share{{Who: 1, Count: 1, Begin: 3, End: 5}}}
	var want []api.Place
	for _, tone := range []int{1, 2, 4, 5, 7, 8, 10, 11} {
		want = append(want, api.Place{Tone: tone, Time: 3})
	}
	for tone := range 12 {
		want = append(want, api.Place{Tone: tone, Time: 4})
	}
	if got := places(t, g, 1); !slices.Equal(got, want) {
		t.Errorf("%v, want %v", got, want)
	}
}

func TestPlacesAtEachTime(t *testing.T) {
	for time := range 14 {
		want := 12
		if time == 3 || time == 10 {
			want = 8
		}
		for block := range 12 {
			g := api.Grid{Blocks: 12, Shares: []api.Share{{Who: 16, From: block, Count: 1, Begin: time, End: time + 1}}}
			l := places(t, g, 16)
			if len(l) != want || !slices.Equal(l, spokenPlaces(g, 16)) {
				t.Errorf("block %d at the time %d: %v", block, time, l)
			}
		}
	}
}

func TestPlacesOfAll(t *testing.T) {
	for blocks := 1; blocks <= 12; blocks++ {
		g := api.Grid{Blocks: blocks, Shares: []api.Share{{Who: 2, Count: blocks, End: 14}}}
		if l := places(t, g, 2); len(l) != blocks*160 || !slices.Equal(l, spokenPlaces(g, 2)) {
			t.Errorf("%d blocks: %d places", blocks, len(l))
		}
	}
}

// TestPlacesGoByTimeThenTone, whatever the order of the shares: those of several shares are mixed.
func TestPlacesGoByTimeThenTone(t *testing.T) {
	g := api.Grid{Blocks: 4, Shares: []api.Share{
		{Who: 1, From: 3, Count: 1, Begin: 4, End: 6},
		{Who: 2, From: 2, Count: 1, Begin: 4, End: 6},
		{Who: 1, From: 0, Count: 2, Begin: 5, End: 7},
		{Who: 1, From: 2, Count: 1, Begin: 0, End: 1},
	}}
	var want []api.Place
	for _, run := range []struct{ time, from, to int }{{0, 24, 36}, {4, 36, 48}, {5, 0, 24}, {5, 36, 48}, {6, 0, 24}} {
		for tone := run.from; tone < run.to; tone++ {
			want = append(want, api.Place{Tone: tone, Time: run.time})
		}
	}
	if got := places(t, g, 1); !slices.Equal(got, want) {
		t.Errorf("%v, want %v", got, want)
	}
	slices.Reverse(g.Shares)
	if got := places(t, g, 1); !slices.Equal(got, want) {
		t.Errorf("shares turned about: %v, want %v", got, want)
	}
}

func TestPlacesOfNoShare(t *testing.T) {
	grids := []api.Grid{
		{Blocks: 1},
		{Blocks: 12, Shares: []api.Share{{Who: 1, Count: 1, Begin: 2, End: 4}}},
		{Blocks: 12, Shares: []api.Share{{Who: 1, Count: 12, End: 14}}},
	}
	for _, g := range grids {
		for _, who := range append([]int{2, 3, 15, 16}, strangers...) {
			if l := places(t, g, who); len(l) != 0 {
				t.Errorf("%v: %d has %v", g, who, l)
			}
		}
	}
}

func TestPlacesAsSpelt(t *testing.T) {
	s := source(2)
	for range 150 {
		g := s.grid(1+s.below(12), 20)
		for who := range 18 {
			if got, want := places(t, g, who), spokenPlaces(g, who); !slices.Equal(got, want) {
				t.Errorf("%v, of %d: %v, want %v", g, who, got, want)
			}
		}
	}
}

// TestNoPlaceIsTwoUsers, nor twice one user's, nor a pilot's.
func TestNoPlaceIsTwoUsers(t *testing.T) {
	s := source(3)
	for range 100 {
		g := s.grid(1+s.below(12), 40)
		whose := map[api.Place]int{}
		for who := 1; who <= 16; who++ {
			for _, p := range places(t, g, who) {
				if other, there := whose[p]; there || spokenPilot(p) {
					t.Fatalf("%v: %v is of %d, and of %d or a pilot's", g, p, who, other)
				}
				whose[p] = who
			}
		}
	}
}

func TestPlacesOfManyShares(t *testing.T) {
	g := api.Grid{Blocks: 12, Shares: small(100)}
	for who := range 18 {
		if got, want := places(t, g, who), spokenPlaces(g, who); !slices.Equal(got, want) {
			t.Errorf("of %d: %v, want %v", who, got, want)
		}
	}
}
