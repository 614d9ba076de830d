package match_test

import (
	"slices"
	"testing"

	"roamwave/api"
	"roamwave/match"
)

// room is a copy of a list with much room behind it, all of which holds x.
func room[T any](list []T, x T) []T {
	all := slices.Repeat([]T{x}, len(list)+2000)
	copy(all, list)
	return all
}

// spoil all of a list, the room behind it too.
func spoil[T ~byte | ~int](list []T) {
	list = list[:cap(list)]
	for i := range list {
		list[i] = 7
	}
}

func TestHandedInStays(t *testing.T) {
	s := source(5)
	for _, n := range lengths {
		coded, soft := room(s.bits(n), 9), room(s.soft(n, 50), 9)
		wasCoded, wasSoft := slices.Clone(coded), slices.Clone(soft)
		for version := range 4 {
			picked, err := match.Pick(coded[:n], version, n)
			b := newBuffer(t, n)
			add(t, b, soft[:n], version)
			spoil(picked)
			spoil(b.Soft())
			add(t, b, s.soft(n, 50), version)
			if err != api.OK || !slices.Equal(coded, wasCoded) || !slices.Equal(soft, wasSoft) {
				t.Errorf("%d bits: what was handed in has changed, or %v", n, err)
			}
		}
	}
}

// sameAgain fails if one answer of a call can be seen in another.
func sameAgain[T ~byte | ~int](t *testing.T, name string, call func() []T) {
	t.Helper()
	first := call()
	want := slices.Clone(first)
	spoil(call())
	if !slices.Equal(first, want) || !slices.Equal(call(), want) {
		t.Errorf("%s: answers share memory", name)
	}
}

func TestAnswersAreNew(t *testing.T) {
	s := source(6)
	coded, soft := s.bits(50), s.soft(70, 500)
	b := newBuffer(t, 50)
	sameAgain(t, "Order", func() []int { got, _ := match.Order(50); return got })
	sameAgain(t, "Pick", func() []byte { got, _ := match.Pick(coded, 2, 77); return got })
	sameAgain(t, "Soft of nothing", b.Soft)
	add(t, b, soft, 1)
	sameAgain(t, "Soft", b.Soft)
}

// TestAddKeepsNoList: what is done to a list after it was added is not seen.
func TestAddKeepsNoList(t *testing.T) {
	s := source(7)
	for _, n := range lengths {
		b := newBuffer(t, n)
		soft := s.soft(n, 50)
		add(t, b, soft, 0)
		want := b.Soft()
		spoil(soft)
		gathered(t, "after the list was spoilt", b, want)
	}
}

// TestAnswersStay: what Soft told is not changed by what is added later.
func TestAnswersStay(t *testing.T) {
	b := newBuffer(t, 4)
	add(t, b, []int{1, 2, 3, 4}, 0)
	told := b.Soft()
	add(t, b, []int{10, 10, 10, 10}, 1)
	b.Add([]int{api.MaxSoft}, 0)
	if !slices.Equal(told, []int{1, 3, 2, 4}) {
		t.Errorf("what was told is now %v", told)
	}
}

// TestBuffersStandAlone: what one gathers no other one has.
func TestBuffersStandAlone(t *testing.T) {
	a, b := newBuffer(t, 3), newBuffer(t, 3)
	add(t, a, []int{1, 2, 3}, 0)
	gathered(t, "the other one", b, []int{0, 0, 0})
	add(t, b, []int{5}, 1)
	gathered(t, "the first one", a, []int{1, 3, 2})
	gathered(t, "a new one", newBuffer(t, 3), []int{0, 0, 0})
}

// TestNothingIsKept: what was asked before makes no difference.
func TestNothingIsKept(t *testing.T) {
	s := source(8)
	coded := s.bits(90)
	want, _ := match.Pick(coded, 3, 200)
	for _, n := range lengths {
		match.Pick(s.bits(n), n%4, n)
		match.Order(n)
		match.Begin(n, n%4)
		if got, err := match.Pick(coded, 3, 200); err != api.OK || !slices.Equal(got, want) {
			t.Fatalf("Pick again: %s, %v", text(got), err)
		}
	}
}
