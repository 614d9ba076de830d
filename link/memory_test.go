package link_test

import (
	"slices"
	"testing"

	"roamwave/api"
	"roamwave/link"
)

// room is a copy of points with much room behind it, all of which holds one point.
func room(l []api.Point) []api.Point {
	all := slices.Repeat([]api.Point{{I: 9, Q: 9}}, len(l)+5000)
	copy(all, l)
	return all
}

// spoil all of a list, the room behind it too.
func spoil(l []api.Point) {
	l = l[:cap(l)]
	for i := range l {
		l[i] = api.Point{I: 5, Q: -5}
	}
}

func TestHandedInStays(t *testing.T) {
	r := source(10)
	for _, x := range all() {
		e := newEar(t, x)
		l := room(r.points(x.Count/x.Order, 20))
		was := slices.Clone(l)
		for version := range 4 {
			e.Take(l[:x.Count/x.Order], version)
			e.Take(l[:x.Count/x.Order], 4)
			e.Take(l[:x.Count/x.Order+1], version)
			e.Take(l, version)
		}
		if !slices.Equal(l, was) {
			t.Errorf("%+v: what was handed in has changed", x)
		}
	}
}

// TestTakeKeepsNoList: what is done to a list after it was taken is not seen.
func TestTakeKeepsNoList(t *testing.T) {
	r := source(11)
	for _, x := range whole {
		data := r.data(x.bytes)
		e := newEar(t, x)
		l := build(t, data, x.Settings, 0)
		take(t, e, l, 0)
		was := e.Soft()
		spoil(l)
		if !slices.Equal(e.Soft(), was) {
			t.Errorf("%+v: what was done to a list later is seen", x)
		}
		takes(t, "after the list was spoilt", e, build(t, data, x.Settings, 1), 1, data)
	}
}

func TestAnswersAreNew(t *testing.T) {
	r := source(12)
	for _, x := range all() {
		data := r.data(x.bytes)
		first := build(t, data, x.Settings, 2)
		want := slices.Clone(first)
		spoil(build(t, data, x.Settings, 2))
		if !slices.Equal(first, want) || !slices.Equal(build(t, data, x.Settings, 2), want) {
			t.Errorf("%+v: answers of Build share memory", x)
		}
		e := newEar(t, x)
		take(t, e, first, 2)
		soft := e.Soft()
		clear(e.Soft())
		if !slices.Equal(e.Soft(), soft) {
			t.Errorf("%+v: what is gathered is handed out itself", x)
		}
	}
}

// TestEarsStandAlone: what one has heard no other one has.
func TestEarsStandAlone(t *testing.T) {
	for _, x := range whole {
		one, other := newEar(t, x), newEar(t, x)
		l := build(t, string(make([]byte, x.bytes)), x.Settings, 0)
		take(t, one, l, 0)
		if !slices.Equal(other.Soft(), make([]int, len(other.Soft()))) {
			t.Errorf("%+v: one ear hears what another one takes", x)
		}
		was := one.Soft()
		take(t, other, l, 3)
		take(t, newEar(t, x), l, 1)
		if !slices.Equal(one.Soft(), was) {
			t.Errorf("%+v: an ear hears what another one takes", x)
		}
	}
}

// TestNothingIsKept: what was asked before makes no difference to what is built.
func TestNothingIsKept(t *testing.T) {
	r := source(13)
	x := whole[3]
	data := r.data(x.bytes)
	want := build(t, data, x.Settings, 1)
	for _, y := range all() {
		e := newEar(t, y)
		take(t, e, build(t, r.data(y.bytes), y.Settings, 1), 1)
		link.Build(r.data(41), y.Settings, 1)
		link.Check(y.Settings, -1)
		if !slices.Equal(build(t, data, x.Settings, 1), want) {
			t.Fatalf("after %+v the same block is built otherwise", y)
		}
		takes(t, "built before", newEar(t, x), want, 1, data)
	}
}
