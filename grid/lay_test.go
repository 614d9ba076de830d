package grid_test

import (
	"math"
	"slices"
	"testing"

	"roamwave/api"
)

func TestLayNothing(t *testing.T) {
	for blocks := 1; blocks <= 12; blocks++ {
		for _, g := range []api.Grid{{Blocks: blocks}, {Blocks: blocks, Shares: []api.Share{{Who: 1, Count: blocks, End: 14}}}} {
			want := spokenRows(g, nil)
			if !sameRows(lay(t, g, nil), want) || !sameRows(lay(t, g, []api.Part{}), want) {
				t.Errorf("%v: more than pilots is laid", g)
			}
		}
	}
}

func TestPilots(t *testing.T) {
	rows := lay(t, api.Grid{Blocks: 12}, nil)
	counts := map[api.Point]int{}
	for time, row := range rows {
		for tone, p := range row {
			counts[p]++
			if p != (api.Point{}) && (tone%3 != 0 || time != 3 && time != 10) {
				t.Errorf("%v at the tone %d, time %d", p, tone, time)
			}
		}
	}
	early, late := api.Point{I: 1, Q: -1}, api.Point{I: 1, Q: 1}
	if len(rows) != 14 || counts[early] != 48 || counts[late] != 48 || rows[3][141] != early || rows[10][0] != late {
		t.Errorf("%d rows, %v", len(rows), counts)
	}
}

func TestLayByHand(t *testing.T) {
	g := api.Grid{Blocks: 2, Shares: []api.Share{
		{Who: 1, From: 1, Count: 1, Begin: 9, End: 11},
		{Who: 7, From: 0, Count: 1, Begin: 10, End: 11},
	}}
	one, seven := make([]api.Point, 20), make([]api.Point, 8)
	for i := range one {
		one[i] = api.Point{I: 100 + i, Q: -i}
	}
	for i := range seven {
		seven[i] = api.Point{I: 700 + i, Q: i}
	}
	rows := lay(t, g, []api.Part{{Who: 7, Points: seven}, {Who: 1, Points: one}})
	for _, l := range []struct {
		time, tone int
		want       api.Point
	}{
		{8, 12, api.Point{}}, {9, 0, api.Point{}}, {9, 11, api.Point{}},
		{9, 12, one[0]}, {9, 23, one[11]},
		{10, 0, api.Point{I: 1, Q: 1}}, {10, 1, seven[0]}, {10, 2, seven[1]}, {10, 4, seven[2]}, {10, 11, seven[7]},
		{10, 12, api.Point{I: 1, Q: 1}}, {10, 13, one[12]}, {10, 23, one[19]},
		{11, 12, api.Point{}}, {3, 21, api.Point{I: 1, Q: -1}}, {13, 23, api.Point{}},
	} {
		if got := rows[l.time][l.tone]; got != l.want {
			t.Errorf("time %d, tone %d: %v, want %v", l.time, l.tone, got, l.want)
		}
	}
}

func TestLayAndTakeAsSpelt(t *testing.T) {
	s := source(4)
	for range 150 {
		g := s.grid(1+s.below(12), 20)
		parts := s.parts(g)
		rows := lay(t, g, parts)
		if !sameRows(rows, spokenRows(g, parts)) {
			t.Fatalf("%v, %v: %v", g, parts, rows)
		}
		for _, part := range parts {
			if got := take(t, g, rows, part.Who); !slices.Equal(got, part.Points) {
				t.Fatalf("%v, of %d: %v, laid %v", g, part.Who, got, part.Points)
			}
		}
	}
}

// TestLaySome: who has places, but no part, has {0, 0} there.
func TestLaySome(t *testing.T) {
	s := source(5)
	for range 60 {
		g := s.grid(1+s.below(12), 20)
		parts := s.parts(g)
		some := parts[:s.below(len(parts)+1)]
		rows := lay(t, g, some)
		if !sameRows(rows, spokenRows(g, some)) {
			t.Fatalf("%v, %v: %v", g, some, rows)
		}
		for _, part := range parts[len(some):] {
			if got := take(t, g, rows, part.Who); !slices.Equal(got, make([]api.Point, len(part.Points))) {
				t.Fatalf("%v, of %d: %v, laid nothing", g, part.Who, got)
			}
		}
	}
}

// TestLayTheFarthest: points are laid whatever they are, also as if they were nothing or pilots.
func TestLayTheFarthest(t *testing.T) {
	g := api.Grid{Blocks: 1, Shares: []api.Share{{Who: 5, Count: 1, Begin: 0, End: 1}}}
	points := slices.Repeat([]api.Point{{I: math.MaxInt, Q: math.MinInt}, {}, {I: 1, Q: 1}, {I: 1, Q: -1}}, 3)
	rows := lay(t, g, []api.Part{{Who: 5, Points: points}})
	if !slices.Equal(rows[0], points) || !slices.Equal(take(t, g, rows, 5), points) {
		t.Errorf("%v, laid %v", rows[0], points)
	}
}

func TestLayFull(t *testing.T) {
	s := source(6)
	for blocks := 1; blocks <= 12; blocks++ {
		g := api.Grid{Blocks: blocks, Shares: []api.Share{{Who: 16, Count: blocks, End: 14}}}
		parts := []api.Part{{Who: 16, Points: s.points(blocks * 160)}}
		rows := lay(t, g, parts)
		if !sameRows(rows, spokenRows(g, parts)) || !slices.Equal(take(t, g, rows, 16), parts[0].Points) {
			t.Errorf("%d blocks are not laid as they must be", blocks)
		}
	}
}

// TestLayOfStrangers: who has no share may have a part, of no points.
func TestLayOfStrangers(t *testing.T) {
	g := api.Grid{Blocks: 1, Shares: []api.Share{{Who: 1, Count: 1, Begin: 3, End: 4}}}
	want := spokenRows(g, nil)
	for _, who := range append([]int{2, 16}, strangers...) {
		if !sameRows(lay(t, g, []api.Part{{Who: who}}), want) || !sameRows(lay(t, g, []api.Part{{Who: who, Points: []api.Point{}}}), want) {
			t.Errorf("something of %d is laid", who)
		}
		for _, n := range []int{1, 8, 12, 160, 168} {
			layFails(t, "points of a stranger", g, []api.Part{{Who: who, Points: make([]api.Point, n)}}, api.ErrForm)
		}
		layFails(t, "a stranger twice", g, []api.Part{{Who: who}, {Who: who}}, api.ErrArg)
	}
}

func TestLayOfManyStrangers(t *testing.T) {
	parts := make([]api.Part, 200000)
	for i := range parts {
		parts[i].Who = i - 100000
	}
	g := api.Grid{Blocks: 12}
	if !sameRows(lay(t, g, parts), spokenRows(g, nil)) {
		t.Error("something of strangers is laid")
	}
	parts[0].Who = parts[len(parts)-1].Who
	layFails(t, "the first as the last", g, parts, api.ErrArg)
}

func TestLayWrongNumber(t *testing.T) {
	g := api.Grid{Blocks: 1, Shares: []api.Share{{Who: 1, Count: 1, Begin: 3, End: 5}, {Who: 2, Count: 1, Begin: 5, End: 6}}}
	right := api.Part{Who: 2, Points: make([]api.Point, 12)}
	for _, n := range []int{0, 1, 8, 12, 19, 21, 24, 32, 168, 5000} {
		wrong := api.Part{Who: 1, Points: make([]api.Point, n)}
		layFails(t, "a wrong number", g, []api.Part{wrong}, api.ErrForm)
		layFails(t, "a wrong number, then a right one", g, []api.Part{wrong, right}, api.ErrForm)
		layFails(t, "a right number, then a wrong one", g, []api.Part{right, wrong}, api.ErrForm)
	}
}

// TestLayTwice: two parts of one Who are ErrArg, also ahead of which a number is wrong.
func TestLayTwice(t *testing.T) {
	g := api.Grid{Blocks: 1, Shares: []api.Share{{Who: 1, Count: 1, Begin: 4, End: 6}, {Who: 2, Count: 1, Begin: 6, End: 7}}}
	right, half := make([]api.Point, 24), make([]api.Point, 12)
	for _, parts := range [][]api.Part{
		{{Who: 1, Points: right}, {Who: 1, Points: right}},
		{{Who: 1, Points: half}, {Who: 1, Points: half}},
		{{Who: 1, Points: right}, {Who: 1}},
		{{Who: 1}, {Who: 1, Points: right}},
		{{Who: 1, Points: right}, {Who: 2, Points: half}, {Who: 1, Points: right}},
		{{Who: 2}, {Who: 1, Points: right}, {Who: 1, Points: right}},
		{{Who: 3, Points: half}, {Who: 2, Points: half}, {Who: 2, Points: half}},
		{{Who: 3}, {Who: 3}},
		{{Who: 2}, {Who: 3, Points: half}, {Who: 3, Points: half}, {Who: 3, Points: half}},
	} {
		layFails(t, "two parts", g, parts, api.ErrArg)
	}
}

func TestTakeOfAnyRows(t *testing.T) {
	s := source(7)
	for range 60 {
		g := s.grid(1+s.below(12), 20)
		rows := s.rows(g.Blocks)
		for who := range 18 {
			var want []api.Point
			for _, p := range spokenPlaces(g, who) {
				want = append(want, rows[p.Time][p.Tone])
			}
			if got := take(t, g, rows, who); !slices.Equal(got, want) {
				t.Fatalf("%v, of %d: %v, want %v", g, who, got, want)
			}
		}
	}
}

func TestTakeOfNoShare(t *testing.T) {
	g := api.Grid{Blocks: 1, Shares: []api.Share{{Who: 1, Count: 1, Begin: 3, End: 4}}}
	s := source(8)
	for _, who := range append([]int{2, 16}, strangers...) {
		if l := take(t, g, s.rows(1), who); len(l) != 0 {
			t.Errorf("%d took %v", who, l)
		}
		takeFails(t, "a stranger, no rows", g, nil, who, api.ErrForm)
	}
}

func TestTakeWrongRows(t *testing.T) {
	s := source(9)
	for _, blocks := range []int{1, 2, 12} {
		g := api.Grid{Blocks: blocks, Shares: []api.Share{{Who: 1, Count: 1, Begin: 3, End: 4}}}
		for _, who := range []int{1, 2, 0} {
			takeFails(t, "no rows", g, nil, who, api.ErrForm)
			takeFails(t, "no rows", g, [][]api.Point{}, who, api.ErrForm)
			takeFails(t, "empty rows", g, make([][]api.Point, 14), who, api.ErrForm)
			rows := s.rows(blocks)
			takeFails(t, "a row less", g, rows[:13], who, api.ErrForm)
			takeFails(t, "a row less", g, rows[1:], who, api.ErrForm)
			takeFails(t, "a row more", g, append(slices.Clone(rows), rows[0]), who, api.ErrForm)
			takeFails(t, "an empty row more", g, append(slices.Clone(rows), nil), who, api.ErrForm)
			takeFails(t, "twice the rows", g, append(slices.Clone(rows), rows...), who, api.ErrForm)
			takeFails(t, "a block more", g, s.rows(blocks+1), who, api.ErrForm)
			takeFails(t, "a block less", g, s.rows(blocks-1), who, api.ErrForm)
		}
	}
}

func TestTakeOneWrongRow(t *testing.T) {
	s := source(10)
	for _, blocks := range []int{1, 5, 12} {
		g := api.Grid{Blocks: blocks, Shares: []api.Share{{Who: 1, Count: 1, Begin: 3, End: 4}}}
		for time := range 14 {
			for _, n := range []int{0, 1, 12*blocks - 1, 12*blocks + 1, 12*blocks + 12, 145} {
				rows := s.rows(blocks)
				rows[time] = make([]api.Point, n)
				takeFails(t, "one wrong row", g, rows, 1, api.ErrForm)
				takeFails(t, "one wrong row, of a stranger", g, rows, 2, api.ErrForm)
			}
		}
	}
}
