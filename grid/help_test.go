package grid_test

import (
	"math"
	"slices"
	"testing"

	"roamwave/api"
	"roamwave/grid"
)

// strangers are no user's number: as who they have no place, in a share they are wrong.
var strangers = []int{0, -1, -16, 17, 18, 100, 256 + 1, 1 << 16, 1<<32 + 1,
	math.MaxInt32, math.MinInt32, math.MaxInt, math.MinInt, math.MinInt + 1}

// source of numbers that are mixed, but always the same.
type source uint64

func (s *source) below(n int) int {
	*s = *s*6364136223846793005 + 1442695040888963407
	return int(uint64(*s)>>33) % n
}

// points of which hardly two are alike, and none is {0, 0}.
func (s *source) points(n int) []api.Point {
	l := make([]api.Point, n)
	for i := range l {
		l[i] = api.Point{I: s.below(1<<20) + 2, Q: s.below(1<<20) - 1<<19}
	}
	return l
}

// rows that a grid of so many blocks may have been heard as.
func (s *source) rows(blocks int) [][]api.Point {
	rows := make([][]api.Point, 14)
	for time := range rows {
		rows[time] = s.points(12 * blocks)
	}
	return rows
}

// share that may be, of a grid of so many blocks.
func (s *source) share(blocks int) api.Share {
	from, begin := s.below(blocks), s.below(14)
	return api.Share{
		Who:   1 + s.below(16),
		From:  from,
		Count: 1 + s.below(min(3, blocks-from)),
		Begin: begin,
		End:   begin + 1 + s.below(min(4, 14-begin)),
	}
}

// grid with at most so many shares, of which no two clash.
func (s *source) grid(blocks, most int) api.Grid {
	g := api.Grid{Blocks: blocks}
	for range most {
		more := append(slices.Clone(g.Shares), s.share(blocks))
		if !spokenClash(more) {
			g.Shares = more
		}
	}
	return g
}

// parts for all users who have places, and for some who have none, in any order.
func (s *source) parts(g api.Grid) []api.Part {
	var parts []api.Part
	for who := range 18 {
		n := len(spokenPlaces(g, who))
		if n > 0 || s.below(2) == 0 {
			parts = slices.Insert(parts, s.below(len(parts)+1), api.Part{Who: who, Points: s.points(n)})
		}
	}
	return parts
}

// small is n shares of one block at one time each, with users in turn; a grid of 12 blocks has room for 168.
func small(n int) []api.Share {
	l := make([]api.Share, n)
	for i := range l {
		l[i] = api.Share{Who: 1 + i%16, From: i % 12, Count: 1, Begin: i / 12, End: i/12 + 1}
	}
	return l
}

// isIn tells whether a share has a place, as the chapter spells it.
func isIn(s api.Share, p api.Place) bool {
	block := p.Tone / 12
	return block >= s.From && block < s.From+s.Count && p.Time >= s.Begin && p.Time < s.End
}

func spokenPilot(p api.Place) bool {
	return (p.Time == 3 || p.Time == 10) && p.Tone%3 == 0
}

// spokenClash goes through all places for each two shares.
func spokenClash(shares []api.Share) bool {
	for i, s := range shares {
		for _, other := range shares[:i] {
			for time := range 14 {
				for tone := range 144 {
					if p := (api.Place{Tone: tone, Time: time}); isIn(s, p) && isIn(other, p) {
						return true
					}
				}
			}
		}
	}
	return false
}

// spokenPlaces goes through all shares for each place.
func spokenPlaces(g api.Grid, who int) []api.Place {
	var l []api.Place
	for time := range 14 {
		for tone := range 12 * g.Blocks {
			p := api.Place{Tone: tone, Time: time}
			for _, s := range g.Shares {
				if s.Who == who && isIn(s, p) && !spokenPilot(p) {
					l = append(l, p)
				}
			}
		}
	}
	return l
}

// spokenRows puts together what must stand at each place.
func spokenRows(g api.Grid, parts []api.Part) [][]api.Point {
	laid := map[api.Place]api.Point{}
	for _, part := range parts {
		for i, p := range spokenPlaces(g, part.Who) {
			laid[p] = part.Points[i]
		}
	}
	rows := make([][]api.Point, 14)
	for time := range rows {
		for tone := range 12 * g.Blocks {
			p := api.Place{Tone: tone, Time: time}
			if spokenPilot(p) {
				laid[p] = api.Point{I: 1, Q: 1 - time%2*2}
			}
			rows[time] = append(rows[time], laid[p])
		}
	}
	return rows
}

func sameRows(a, b [][]api.Point) bool {
	return slices.EqualFunc(a, b, slices.Equal[[]api.Point])
}

func cloneRows(rows [][]api.Point) [][]api.Point {
	copied := slices.Clone(rows)
	for i, row := range rows {
		copied[i] = slices.Clone(row)
	}
	return copied
}

// places of a grid that may be.
func places(t *testing.T, g api.Grid, who int) []api.Place {
	t.Helper()
	l, err := grid.Places(g, who)
	if err != api.OK {
		t.Fatalf("Places(%v, %d): %v, %v", g, who, l, err)
	}
	return l
}

// lay what may be laid.
func lay(t *testing.T, g api.Grid, parts []api.Part) [][]api.Point {
	t.Helper()
	rows, err := grid.Lay(g, parts)
	if err != api.OK {
		t.Fatalf("Lay(%v, %v): %v", g, parts, err)
	}
	return rows
}

// take what may be taken.
func take(t *testing.T, g api.Grid, rows [][]api.Point, who int) []api.Point {
	t.Helper()
	l, err := grid.Take(g, rows, who)
	if err != api.OK {
		t.Fatalf("Take(%v, .., %d): %v, %v", g, who, l, err)
	}
	return l
}

// layFails fails unless Lay answers an error, and nothing beside it.
func layFails(t *testing.T, what string, g api.Grid, parts []api.Part, want api.Errno) {
	t.Helper()
	if rows, err := grid.Lay(g, parts); err != want || rows != nil {
		t.Errorf("Lay, %s, %v: %d rows, %v, want %v", what, g, len(rows), err, want)
	}
}

// takeFails fails unless Take answers an error, and nothing beside it.
func takeFails(t *testing.T, what string, g api.Grid, rows [][]api.Point, who int, want api.Errno) {
	t.Helper()
	if l, err := grid.Take(g, rows, who); err != want || l != nil {
		t.Errorf("Take, %s, %v, of %d: %v, %v, want %v", what, g, who, l, err, want)
	}
}
