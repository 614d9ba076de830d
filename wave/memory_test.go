package wave_test

import (
	"slices"
	"testing"

	"roamwave/api"
	"roamwave/wave"
)

// room is a copy of a list with much room behind it, all of which holds x.
func room[T any](list []T, x T) []T {
	all := slices.Repeat([]T{x}, len(list)+5000)
	copy(all, list)
	return all
}

// spoil all of a list, the room behind it too.
func spoil[T any](list []T, x T) {
	list = list[:cap(list)]
	for i := range list {
		list[i] = x
	}
}

func TestHandedInStays(t *testing.T) {
	s := source(5)
	for _, order := range orders {
		for _, count := range []int{0, 1, 3, 100, api.MaxBits / order} {
			b, l := room(s.bits(count*order), 9), room(s.points(count, 1000), api.Point{I: 9, Q: 9})
			wasBits, wasPoints := slices.Clone(b), slices.Clone(l)
			spoil(send(t, b[:count*order], order), api.Point{I: 5, Q: 5})
			spoil(hear(t, l[:count], order), 5)
			spoil(near(t, l[:count], order), 5)
			if !slices.Equal(b, wasBits) || !slices.Equal(l, wasPoints) {
				t.Errorf("order %d, %d points: what was handed in has changed", order, count)
			}
		}
	}
}

// TestRefusedStays: what is refused is not changed either.
func TestRefusedStays(t *testing.T) {
	b, l := room(withByte(12, 11, 2), 9), room(withPoint(12, 11, api.Point{I: 1001}), api.Point{I: 9})
	wasBits, wasPoints := slices.Clone(b), slices.Clone(l)
	for _, order := range append(wrongOrders, orders...) {
		wave.Send(b[:12], order)
		wave.Hear(l[:12], order)
		wave.Near(l[:12], order)
	}
	if !slices.Equal(b, wasBits) || !slices.Equal(l, wasPoints) {
		t.Error("what was refused has changed")
	}
}

// sameAgain fails if one answer of a call can be seen in another.
func sameAgain[T comparable](t *testing.T, name string, x T, call func() []T) {
	t.Helper()
	first := call()
	want := slices.Clone(first)
	spoil(call(), x)
	if !slices.Equal(first, want) || !slices.Equal(call(), want) {
		t.Errorf("%s: answers share memory", name)
	}
}

func TestAnswersAreNew(t *testing.T) {
	s := source(6)
	for _, order := range orders {
		b, l := s.bits(30*order), s.points(30, 9)
		sameAgain(t, "Send", api.Point{I: 77, Q: 77}, func() []api.Point { return send(t, b, order) })
		sameAgain(t, "Hear", 77, func() []int { return hear(t, l, order) })
		sameAgain(t, "Near", 77, func() []byte { return near(t, l, order) })
	}
}

// TestNothingIsKept: what was asked before makes no difference, nor what became of it.
func TestNothingIsKept(t *testing.T) {
	s := source(7)
	l := s.points(40, 9)
	soft, b := hear(t, l, 6), near(t, l, 6)
	for _, order := range append(wrongOrders, orders...) {
		other := s.points(60, 1003)
		wave.Hear(other, order)
		wave.Near(other, order)
		wave.Send(s.bits(60), order)
		if !slices.Equal(hear(t, l, 6), soft) || !slices.Equal(near(t, l, 6), b) {
			t.Fatalf("after the order %d the same points are heard otherwise", order)
		}
	}
}
