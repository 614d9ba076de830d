package grid_test

import (
	"slices"
	"testing"

	"roamwave/api"
	"roamwave/grid"
)

var (
	oddPoint = api.Point{I: -77, Q: -77}
	oddPlace = api.Place{Tone: -77, Time: -77}
	oddShare = api.Share{Who: -77}
)

// room is a copy of a list with room behind it, all of which holds x.
func room[T any](list []T, x T) []T {
	all := slices.Repeat([]T{x}, len(list)+200)
	copy(all, list)
	return all
}

// spoil all of a list, the room behind it too.
func spoil[T any](list []T, x T) {
	list = list[:cap(list)]
	for i := range list {
		list[i] = x
	}
}

func spoilRows(rows [][]api.Point) {
	for _, row := range rows {
		spoil(row, oddPoint)
	}
	spoil(rows, nil)
}

// handed is what a test hands in: all of each list, the room behind it included, to be held against a copy.
type handed struct {
	shares []api.Share
	parts  []api.Part
	points [][]api.Point
	rows   [][]api.Point
}

// handIn answers a grid, parts and rows with room behind all their lists, and what they stand in.
func handIn(g api.Grid, parts []api.Part, rows [][]api.Point) (api.Grid, []api.Part, [][]api.Point, handed) {
	h := handed{shares: room(g.Shares, oddShare), parts: room(parts, api.Part{Who: -77})}
	for i, part := range parts {
		h.points = append(h.points, room(part.Points, oddPoint))
		h.parts[i].Points = h.points[i][:len(part.Points)]
	}
	var lists [][]api.Point
	for _, row := range rows {
		h.rows = append(h.rows, room(row, oddPoint))
		lists = append(lists, h.rows[len(h.rows)-1][:len(row)])
	}
	return api.Grid{Blocks: g.Blocks, Shares: h.shares[:len(g.Shares)]}, h.parts[:len(parts)], lists, h
}

func (h handed) clone() handed {
	return handed{slices.Clone(h.shares), slices.Clone(h.parts), cloneRows(h.points), cloneRows(h.rows)}
}

func (h handed) same(other handed) bool {
	samePart := func(a, b api.Part) bool { return a.Who == b.Who && len(a.Points) == len(b.Points) }
	return slices.Equal(h.shares, other.shares) && slices.EqualFunc(h.parts, other.parts, samePart) &&
		sameRows(h.points, other.points) && sameRows(h.rows, other.rows)
}

func TestHandedInStays(t *testing.T) {
	s := source(11)
	for range 40 {
		bare := s.grid(1+s.below(12), 20)
		g, parts, rows, all := handIn(bare, s.parts(bare), s.rows(bare.Blocks))
		was := all.clone()
		grid.Check(g)
		spoilRows(lay(t, g, parts))
		for who := range 18 {
			spoil(places(t, g, who), oddPlace)
			spoil(take(t, g, rows, who), oddPoint)
		}
		if !all.same(was) {
			t.Fatalf("%v: what was handed in has changed", bare)
		}
	}
}

// TestRefusedStays: what is refused is not changed either.
func TestRefusedStays(t *testing.T) {
	s := source(12)
	clash := api.Grid{Blocks: 1, Shares: slices.Repeat([]api.Share{{Who: 1, Count: 1, Begin: 1, End: 2}}, 2)}
	wrong := api.Grid{Blocks: 1, Shares: []api.Share{{Who: 1, Count: 1, Begin: 1, End: 2}, {Who: 1, Count: 2, Begin: 3, End: 4}}}
	right := api.Grid{Blocks: 1, Shares: []api.Share{{Who: 1, Count: 1, Begin: 1, End: 2}}}
	for _, bare := range []api.Grid{clash, wrong, right} {
		g, parts, rows, all := handIn(bare, []api.Part{{Who: 1, Points: s.points(12)}, {Who: 2, Points: s.points(3)}}, s.rows(2))
		was := all.clone()
		grid.Check(g)
		grid.Places(g, 1)
		grid.Lay(g, parts)
		grid.Lay(g, append(slices.Clone(parts), parts...))
		grid.Take(g, rows, 1)
		if !all.same(was) {
			t.Errorf("%v: what was refused has changed", bare)
		}
	}
}

// TestAnswersAreNew: what becomes of an answer, or of what was handed in, is seen in no other answer.
func TestAnswersAreNew(t *testing.T) {
	s := source(13)
	bare := s.grid(12, 40)
	who := bare.Shares[0].Who
	g, parts, rows, all := handIn(bare, s.parts(bare), s.rows(12))
	wantPlaces, wantRows := spokenPlaces(g, who), spokenRows(g, parts)
	firstPlaces, firstRows, firstPoints := places(t, g, who), lay(t, g, parts), take(t, g, rows, who)
	wantPoints := slices.Clone(firstPoints)
	spoil(places(t, g, who), oddPlace)
	spoilRows(lay(t, g, parts))
	spoil(take(t, g, rows, who), oddPoint)
	again := slices.Equal(places(t, g, who), wantPlaces) && sameRows(lay(t, g, parts), wantRows) &&
		slices.Equal(take(t, g, rows, who), wantPoints)
	if !again {
		t.Error("a spoilt answer is seen in a later one")
	}
	spoil(all.shares, oddShare)
	spoilRows(all.points)
	spoilRows(all.rows)
	if !slices.Equal(firstPlaces, wantPlaces) || !sameRows(firstRows, wantRows) || !slices.Equal(firstPoints, wantPoints) {
		t.Error("an answer changed behind its caller's back")
	}
}

// TestRowsAreApart: each row may be filled and added to, and no other one sees it.
func TestRowsAreApart(t *testing.T) {
	for blocks := 1; blocks <= 12; blocks++ {
		g := api.Grid{Blocks: blocks}
		want := spokenRows(g, nil)
		for time := range 14 {
			rows := lay(t, g, nil)
			spoil(append(rows[time], oddPoint), oddPoint)
			spoil(rows[time], oddPoint)
			rows[time] = want[time]
			if !sameRows(rows, want) {
				t.Errorf("%d blocks: the row %d is seen in another", blocks, time)
			}
		}
	}
}

// TestNothingIsKept: what was asked before makes no difference.
func TestNothingIsKept(t *testing.T) {
	s := source(14)
	g := s.grid(6, 20)
	parts := s.parts(g)
	rows := lay(t, g, parts)
	for range 40 {
		other := s.grid(1+s.below(12), 20)
		grid.Check(other)
		grid.Lay(other, s.parts(other))
		grid.Take(other, rows, 1+s.below(16))
		grid.Places(other, 1+s.below(16))
		grid.Lay(api.Grid{Blocks: s.below(15)}, parts)
		if !sameRows(lay(t, g, parts), rows) {
			t.Fatalf("after %v the same is laid otherwise", other)
		}
	}
}
