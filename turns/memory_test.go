package turns_test

import (
	"slices"
	"testing"

	"roamwave/api"
)

// room makes a list with spare room behind it, all of it filled, and answers the whole and the list.
func room[T any](l []T, fill T) (whole, list []T) {
	whole = append(slices.Clone(l), fill, fill, fill, fill)
	return whole, whole[:len(l)]
}

// spoil all of a list, the room behind it too.
func spoil[T any](l []T, with T) {
	l = l[:cap(l)]
	for i := range l {
		l[i] = with
	}
}

// TestHandedInStays: Slot changes no list that it is handed, nor the room behind it.
func TestHandedInStays(t *testing.T) {
	whole, users := room([]api.User{{Who: 2, Bytes: 5, Fits: 2}, {Who: 3, Fits: 4}, {Who: 7, Bytes: 9, Fits: 3}}, api.User{Who: 8, Bytes: 8, Fits: 8})
	before := slices.Clone(whole)
	x := turnsOf(t, 2)
	for _, blocks := range []int{-1, 0, 1, 2, 3, 100, 101} {
		x.Slot(users, blocks)
		x.Slot(users[1:], blocks)
	}
	if !slices.Equal(whole, before) {
		t.Errorf("Slot left %v of %v", whole, before)
	}
}

// TestNothingIsKept: what the caller does with a list later is not seen.
func TestNothingIsKept(t *testing.T) {
	x := turnsOf(t, 5)
	_, users := room([]api.User{{Who: 1, Bytes: 100, Fits: 2}, {Who: 2, Bytes: 100, Fits: 5}}, api.User{Who: 3, Bytes: 9, Fits: 1})
	slots(t, x, users, 1)
	spoil(users, api.User{Who: 1, Bytes: 7, Fits: 10000})
	credit(t, x, 1, 3)
	slots(t, x, nil, 0)
	slots(t, x, []api.User{{Who: 1, Bytes: 100, Fits: 2}, {Who: 2, Bytes: 100, Fits: 5}}, 1, 2)
	credit(t, x, 1, 1)
}

// TestAnswersAreNew: what was answered may be changed, also the room behind it, and is not changed later.
func TestAnswersAreNew(t *testing.T) {
	x := turnsOf(t, 2)
	users := []api.User{{Who: 1, Bytes: 100, Fits: 3}, {Who: 2, Bytes: 100, Fits: 1}}
	before := slices.Clone(users)
	first := slot(t, x, users, 4)
	second := slot(t, x, users, 4)
	if !slices.Equal(first, []int{2, 2, 1, 2}) || !slices.Equal(second, []int{2, 1, 2, 2}) {
		t.Fatal(first, second)
	}
	spoil(first, 99)
	if !slices.Equal(second, []int{2, 1, 2, 2}) || !slices.Equal(users, before) {
		t.Errorf("another list is spoilt: %v, %v", second, users)
	}
	nobody := slot(t, x, nil, 3)
	spoil(nobody, 99)
	spoil(second, 99)
	slots(t, x, nil, 0, 0, 0)
	slots(t, x, users, 2, 2, 1, 2)
}

// TestTurnsStandAlone: what is done with one is not seen in another.
func TestTurnsStandAlone(t *testing.T) {
	users := []api.User{{Who: 1, Bytes: 100, Fits: 3}, {Who: 2, Bytes: 100, Fits: 1}}
	one, other := turnsOf(t, 2), turnsOf(t, 2)
	slots(t, one, users, 2, 2, 1, 2)
	noCredit(t, other)
	slots(t, other, users, 2, 2, 1)
	credit(t, one, 1, 1)
	credit(t, one, 2, 1)
	slots(t, one, users, 2, 1, 2, 2)
	slots(t, other, users, 2, 2)
	noCredit(t, turnsOf(t, 2))
}
