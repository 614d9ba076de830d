package mac_test

import (
	"math"
	"slices"
	"testing"

	"roamwave/api"
)

// TestLevels: 0 at first; they grow by Rate, up to Depth.
func TestLevels(t *testing.T) {
	s := shares(t,
		api.Channel{ID: 5, Rate: 10, Depth: 25},
		api.Channel{ID: 1, Rate: 0, Depth: 100},
		api.Channel{ID: 32, Rate: 7, Depth: 0},
		api.Channel{ID: 2, Rate: 10000, Depth: 100000},
		api.Channel{ID: 3, Rate: 5, Depth: 10})
	for n, want := range [][5]int{{0, 0, 0, 0, 0}, {10, 0, 0, 10000, 5}, {20, 0, 0, 20000, 10}, {25, 0, 0, 30000, 10}, {25, 0, 0, 40000, 10}} {
		if n > 0 {
			s.Tick()
		}
		for i, id := range []int{5, 1, 32, 2, 3} {
			level(t, s, id, want[i])
		}
	}
	ticks(s, 5)
	level(t, s, 2, 90000)
	ticks(s, 2)
	level(t, s, 2, 100000)
}

// TestLevelOfNone: a channel that is none has no level.
func TestLevelOfNone(t *testing.T) {
	s := shares(t, api.Channel{ID: 2, Rate: 1, Depth: 1}, api.Channel{ID: 32, Rate: 1, Depth: 1})
	none := shares(t)
	for _, id := range append([]int{1, 3, 31}, wrongIDs...) {
		levelIsAbsent(t, s, id)
		levelIsAbsent(t, none, id)
	}
	levelIsAbsent(t, none, 2)
	level(t, s, 2, 0)
}

// TestNoChannels: shares of none tick and give nothing.
func TestNoChannels(t *testing.T) {
	for _, l := range [][]api.Channel{nil, {}} {
		s := shares(t, l...)
		s.Tick()
		for _, bytes := range []int{0, 1, 1000000} {
			grants(t, s, nil, bytes)
			grants(t, s, []int{}, bytes)
		}
		grantIs(t, "a number too many", s, []int{0}, 0)
		grantIs(t, "bytes that may not be", s, nil, -1)
	}
}

// TestEdgesOfChannels: what is at the edge may be, what is beyond it not, wherever it stands.
func TestEdgesOfChannels(t *testing.T) {
	good := []api.Channel{{ID: 1}, {ID: 32, Prio: 100, Rate: 10000, Depth: 100000}, {ID: 17, Prio: 50, Rate: 1, Depth: 1}}
	shares(t, good...)
	var bad []api.Channel
	for _, id := range wrongIDs {
		bad = append(bad, api.Channel{ID: id, Prio: 1, Rate: 1, Depth: 1})
	}
	for _, n := range wrongNumbers {
		bad = append(bad, api.Channel{ID: 4, Prio: n}, api.Channel{ID: 4, Rate: n}, api.Channel{ID: 4, Depth: n})
	}
	bad = append(bad, api.Channel{ID: 4, Prio: 101}, api.Channel{ID: 4, Rate: 10001}, api.Channel{ID: 4, Depth: 100001},
		api.Channel{ID: 4, Prio: math.MinInt, Rate: math.MaxInt, Depth: -1})
	for _, c := range bad {
		newIs(t, "a channel that may not be", []api.Channel{c})
		for at := range len(good) + 1 {
			newIs(t, "a channel that may not be among others", slices.Insert(slices.Clone(good), at, c))
		}
	}
}

// TestNoneTwice: an ID may stand once, whatever else the channels are; all 32 may be there, one more not.
func TestNoneTwice(t *testing.T) {
	var from source = 4
	all := from.channels(32, 10, 10)
	s := shares(t, all...)
	for id := 1; id <= 32; id++ {
		level(t, s, id, 0)
		for at := range 33 {
			newIs(t, "33 channels", slices.Insert(slices.Clone(all), at, api.Channel{ID: id, Prio: 9}))
		}
		newIs(t, "the same one twice", []api.Channel{{ID: id}, {ID: id}})
		newIs(t, "an ID twice", []api.Channel{{ID: id}, {ID: id%32 + 1}, {ID: id, Prio: 1, Rate: 2, Depth: 3}})
	}
	newIs(t, "very many", make([]api.Channel, 100000))
}

// TestFirstRound: who has a level is given so much ahead of those who have none, whatever their Prio.
func TestFirstRound(t *testing.T) {
	l := []api.Channel{{ID: 1, Prio: 0}, {ID: 2, Prio: 1, Rate: 6, Depth: 6}, {ID: 3, Prio: 2, Rate: 4, Depth: 4}}
	for _, x := range []struct {
		backlog []int
		bytes   int
		want    []int
	}{
		{[]int{9, 9, 9}, 0, []int{0, 0, 0}},
		{[]int{9, 9, 9}, 5, []int{0, 5, 0}},
		{[]int{9, 9, 9}, 6, []int{0, 6, 0}},
		{[]int{9, 9, 9}, 9, []int{0, 6, 3}},
		{[]int{9, 9, 9}, 10, []int{0, 6, 4}},
		{[]int{9, 9, 9}, 11, []int{1, 6, 4}},
		{[]int{9, 9, 9}, 19, []int{9, 6, 4}},
		{[]int{9, 9, 9}, 21, []int{9, 8, 4}},
		{[]int{9, 9, 9}, 22, []int{9, 9, 4}},
		{[]int{9, 9, 9}, 26, []int{9, 9, 8}},
		{[]int{9, 9, 9}, 27, []int{9, 9, 9}},
		{[]int{9, 9, 9}, 1000000, []int{9, 9, 9}},
		{[]int{9, 2, 1}, 5, []int{2, 2, 1}},
		{[]int{9, 0, 1}, 5, []int{4, 0, 1}},
		{[]int{0, 0, 0}, 5, []int{0, 0, 0}},
		{[]int{1000000, 1000000, 1000000}, 1000000, []int{999990, 6, 4}},
	} {
		s := shares(t, l...)
		s.Tick()
		grants(t, s, x.backlog, x.bytes, x.want...)
		level(t, s, 1, 0-x.want[0])
		level(t, s, 2, 6-x.want[1])
		level(t, s, 3, 4-x.want[2])
	}
}

// TestTurn: by Prio, then by ID, not by where a channel stands in the list.
func TestTurn(t *testing.T) {
	l := []api.Channel{{ID: 9, Prio: 5}, {ID: 8, Prio: 100}, {ID: 3, Prio: 5}, {ID: 32, Prio: 0}, {ID: 1, Prio: 5}, {ID: 31, Prio: 0}}
	// the places in the list, in the turn that is wanted
	turn := []int{5, 3, 4, 2, 0, 1}
	for i := range l {
		l[i].Rate, l[i].Depth = 2, 2
	}
	backlog := []int{3, 3, 3, 3, 3, 3}
	for _, round := range []int{0, 1} {
		for bytes := range 19 {
			s := shares(t, l...)
			ticks(s, round)
			want := make([]int, 6)
			left := bytes
			for _, most := range [][]int{{0, 3}, {2, 1}}[round] {
				for _, i := range turn {
					n := min(most, left)
					want[i] += n
					left -= n
				}
			}
			grants(t, s, backlog, bytes, want...)
		}
	}
}

// TestLevelBelowNought: such a level gives nothing in the first round, and grows from where it is.
func TestLevelBelowNought(t *testing.T) {
	s := shares(t, api.Channel{ID: 1, Prio: 0, Rate: 3, Depth: 5}, api.Channel{ID: 2, Prio: 1, Rate: 1, Depth: 2})
	grants(t, s, []int{10, 0}, 10, 10, 0)
	level(t, s, 1, -10)
	ticks(s, 2)
	level(t, s, 1, -4)
	level(t, s, 2, 2)
	grants(t, s, []int{5, 5}, 3, 1, 2)
	level(t, s, 1, -5)
	level(t, s, 2, 0)
	s.Tick()
	level(t, s, 1, -2)
	s.Tick()
	level(t, s, 1, 1)
	s.Tick()
	level(t, s, 1, 4)
	s.Tick()
	level(t, s, 1, 5)
}

// TestLevelOfNought: such a level gives nothing in the first round either; one of 1 does.
func TestLevelOfNought(t *testing.T) {
	s := shares(t, api.Channel{ID: 1, Prio: 0}, api.Channel{ID: 2, Prio: 1, Rate: 1, Depth: 1})
	grants(t, s, []int{4, 4}, 2, 2, 0)
	s.Tick()
	grants(t, s, []int{4, 4}, 2, 1, 1)
	level(t, s, 1, -3)
	level(t, s, 2, 0)
}

// TestDeepBelow: a level sinks as far as it is given.
func TestDeepBelow(t *testing.T) {
	s := shares(t, api.Channel{ID: 7, Rate: 10000, Depth: 100000})
	for n := range 5000 {
		level(t, s, 7, -1000000*n)
		grants(t, s, []int{1000000}, 1000000, 1000000)
	}
	s.Tick()
	level(t, s, 7, -5000*1000000+10000)
}

// TestWrongGrants: they are refused, and change nothing.
func TestWrongGrants(t *testing.T) {
	s := shares(t, api.Channel{ID: 1, Prio: 1, Rate: 5, Depth: 9}, api.Channel{ID: 2, Prio: 0, Rate: 2, Depth: 9}, api.Channel{ID: 3, Prio: 2})
	s.Tick()
	for _, backlog := range [][]int{nil, {}, {1}, {1, 1}, {1, 1, 1, 1}, {0, 0, 0, 0}, make([]int, 32), make([]int, 100000)} {
		grantIs(t, "not a number for each", s, backlog, 10)
		grantIs(t, "not a number for each", s, backlog, -1)
	}
	for _, n := range wrongNumbers {
		for at := range 3 {
			backlog := []int{1, 1, 1}
			backlog[at] = n
			grantIs(t, "a number that may not be", s, backlog, 10)
			grantIs(t, "a number that may not be", s, backlog, 0)
		}
		grantIs(t, "bytes that may not be", s, []int{1, 1, 1}, n)
		grantIs(t, "bytes that may not be", s, []int{0, 0, 0}, n)
	}
	level(t, s, 1, 5)
	level(t, s, 2, 2)
	level(t, s, 3, 0)
	grants(t, s, []int{1000000, 1000000, 1000000}, 8, 5, 3, 0)
	grants(t, s, []int{0, 0, 1000000}, 1000000, 0, 0, 1000000)
}

// TestAllIsGivenAway: all bytes are given, or nothing waits; none is given more than waits.
func TestAllIsGivenAway(t *testing.T) {
	var from source = 5
	for turn := range 300 {
		l := from.channels(turn%33, 10000, 100000)
		s := shares(t, l...)
		for range 10 {
			ticks(s, from.below(4))
			backlog := make([]int, len(l))
			for i := range backlog {
				backlog[i] = from.below(2) * from.below(1000001)
			}
			bytes := from.below(1000001)
			g, err := s.Grant(backlog, bytes)
			if err != api.OK || len(g) != len(backlog) {
				t.Fatalf("Grant: %d numbers, %v", len(g), err)
			}
			waits, given := 0, 0
			for i := range g {
				if g[i] < 0 || g[i] > backlog[i] {
					t.Fatalf("%d of %d were given", g[i], backlog[i])
				}
				waits += backlog[i]
				given += g[i]
			}
			if given != min(waits, bytes) {
				t.Fatalf("%d of %d bytes were given to %d that wait", given, bytes, waits)
			}
		}
	}
}
