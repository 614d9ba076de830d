package grid_test

import (
	"math"
	"slices"
	"testing"

	"roamwave/api"
	"roamwave/grid"
)

// checked fails unless Check answers an error, and each other call the same one, whatever else is wrong.
func checked(t *testing.T, what string, g api.Grid, want api.Errno) {
	t.Helper()
	if err := grid.Check(g); err != want {
		t.Errorf("Check, %s, %v: %v, want %v", what, g, err, want)
	}
	if want == api.OK {
		return
	}
	for _, who := range []int{0, 1, 2, 16, 17} {
		if l, err := grid.Places(g, who); err != want || l != nil {
			t.Errorf("Places, %s, %v, of %d: %v, %v, want %v", what, g, who, l, err, want)
		}
		takeFails(t, what, g, nil, who, want)
		takeFails(t, what, g, make([][]api.Point, 14), who, want)
	}
	layFails(t, what, g, nil, want)
	layFails(t, what+", a Who twice", g, []api.Part{{Who: 2}, {Who: 2}}, want)
	layFails(t, what+", too many points", g, []api.Part{{Who: 1, Points: make([]api.Point, 3000)}}, want)
}

func TestBlocks(t *testing.T) {
	for blocks := 1; blocks <= 12; blocks++ {
		checked(t, "no shares", api.Grid{Blocks: blocks}, api.OK)
		checked(t, "an empty list", api.Grid{Blocks: blocks, Shares: []api.Share{}}, api.OK)
		checked(t, "one share", api.Grid{Blocks: blocks, Shares: []api.Share{{Who: 1, Count: 1, End: 1}}}, api.OK)
	}
	for _, blocks := range []int{0, -1, -12, 13, 14, 144, 256 + 1, 1<<32 + 1, math.MaxInt32, math.MaxInt, math.MinInt} {
		checked(t, "wrong blocks", api.Grid{Blocks: blocks}, api.ErrArg)
		checked(t, "wrong blocks, one share", api.Grid{Blocks: blocks, Shares: []api.Share{{Who: 1, Count: 1, End: 1}}}, api.ErrArg)
	}
}

// alone is a grid with one share, and with it behind others that are as they must be.
func alone(t *testing.T, what string, blocks int, s api.Share, want api.Errno) {
	t.Helper()
	checked(t, what, api.Grid{Blocks: blocks, Shares: []api.Share{s}}, want)
	if want != api.OK {
		first := api.Share{Who: 3, Count: 1, End: 14}
		checked(t, what, api.Grid{Blocks: blocks, Shares: []api.Share{first, s}}, want)
		checked(t, what, api.Grid{Blocks: blocks, Shares: []api.Share{s, first}}, want)
		checked(t, what+", and a clash ahead", api.Grid{Blocks: blocks, Shares: []api.Share{first, first, s}}, want)
	}
}

func TestShareOfWhom(t *testing.T) {
	for who := 1; who <= 16; who++ {
		alone(t, "a user", 2, api.Share{Who: who, From: 1, Count: 1, Begin: 2, End: 3}, api.OK)
	}
	for _, who := range strangers {
		alone(t, "a stranger", 2, api.Share{Who: who, From: 1, Count: 1, Begin: 2, End: 3}, api.ErrArg)
	}
}

func TestShareOfBlocks(t *testing.T) {
	for blocks := 1; blocks <= 12; blocks++ {
		for from := -2; from <= 14; from++ {
			for count := -2; count <= 14; count++ {
				want := api.ErrArg
				if from >= 0 && count >= 1 && from+count <= blocks {
					want = api.OK
				}
				alone(t, "blocks", blocks, api.Share{Who: 1, From: from, Count: count, Begin: 2, End: 3}, want)
			}
		}
	}
}

// TestShareFarOff: From and Count together must not wrap round into the grid.
func TestShareFarOff(t *testing.T) {
	far := []int{math.MaxInt, math.MaxInt - 1, math.MaxInt/2 + 1, math.MinInt, math.MinInt + 1, math.MinInt / 2,
		math.MaxInt32, math.MinInt32, 1 << 32, -1 << 32}
	for _, x := range far {
		for _, y := range append([]int{-1, 0, 1, 2, 12}, far...) {
			alone(t, "From far off", 12, api.Share{Who: 1, From: x, Count: y, Begin: 2, End: 3}, api.ErrArg)
			alone(t, "Count far off", 12, api.Share{Who: 1, From: y, Count: x, Begin: 2, End: 3}, api.ErrArg)
			alone(t, "Begin far off", 12, api.Share{Who: 1, Count: 1, Begin: x, End: y}, api.ErrArg)
			alone(t, "End far off", 12, api.Share{Who: 1, Count: 1, Begin: y, End: x}, api.ErrArg)
		}
	}
}

func TestShareOfTimes(t *testing.T) {
	for begin := -2; begin <= 17; begin++ {
		for end := -2; end <= 17; end++ {
			want := api.ErrArg
			if begin >= 0 && end <= 14 && begin < end {
				want = api.OK
			}
			alone(t, "times", 2, api.Share{Who: 1, Count: 2, Begin: begin, End: end}, want)
		}
	}
}

func TestManyShares(t *testing.T) {
	for _, n := range []int{0, 1, 16, 17, 99, 100} {
		checked(t, "shares", api.Grid{Blocks: 12, Shares: small(n)}, api.OK)
	}
	for _, n := range []int{101, 102, 128, 168} {
		checked(t, "too many shares", api.Grid{Blocks: 12, Shares: small(n)}, api.ErrArg)
	}
	checked(t, "too many shares, all the same", api.Grid{Blocks: 12, Shares: slices.Repeat(small(1), 101)}, api.ErrArg)
	checked(t, "far too many shares", api.Grid{Blocks: 12, Shares: slices.Repeat(small(1), 100000)}, api.ErrArg)
	checked(t, "100 shares, all the same", api.Grid{Blocks: 12, Shares: slices.Repeat(small(1), 100)}, api.ErrClash)
	checked(t, "100 shares, the last one as the first", api.Grid{Blocks: 12, Shares: append(small(99), small(1)...)}, api.ErrClash)
}

// TestTwoShares: whatever blocks and times two shares have, they clash just if a place is in both, whoever has them.
func TestTwoShares(t *testing.T) {
	var spans [][2]int
	for begin := range 4 {
		for end := begin + 1; end <= 4; end++ {
			spans = append(spans, [2]int{begin, end})
		}
	}
	first := api.Share{Who: 1, From: 1, Count: 2, Begin: 9, End: 11}
	for _, blocks := range spans {
		for _, times := range spans {
			for _, who := range []int{1, 2} {
				s := api.Share{Who: who, From: blocks[0], Count: blocks[1] - blocks[0], Begin: 8 + times[0], End: 8 + times[1]}
				want := api.OK
				if spokenClash([]api.Share{first, s}) {
					want = api.ErrClash
				}
				checked(t, "two shares", api.Grid{Blocks: 4, Shares: []api.Share{first, s}}, want)
				checked(t, "two shares, turned", api.Grid{Blocks: 4, Shares: []api.Share{s, first}}, want)
			}
		}
	}
}

func TestClashAtTheEdges(t *testing.T) {
	whole := api.Share{Who: 1, Count: 12, End: 14}
	checked(t, "the whole grid", api.Grid{Blocks: 12, Shares: []api.Share{whole}}, api.OK)
	checked(t, "the whole grid twice", api.Grid{Blocks: 12, Shares: []api.Share{whole, whole}}, api.ErrClash)
	for _, s := range small(168) {
		checked(t, "the whole grid, and one more", api.Grid{Blocks: 12, Shares: []api.Share{whole, s}}, api.ErrClash)
	}
}

func TestMixedShares(t *testing.T) {
	s := source(1)
	clashes := 0
	for range 600 {
		g := api.Grid{Blocks: 1 + s.below(12)}
		for range 1 + s.below(6) {
			g.Shares = append(g.Shares, s.share(g.Blocks))
		}
		want := api.OK
		if spokenClash(g.Shares) {
			want = api.ErrClash
			clashes++
		}
		checked(t, "mixed shares", g, want)
	}
	if clashes < 100 || clashes > 500 {
		t.Errorf("%d of 600 clash: too few of one kind are tested", clashes)
	}
}
