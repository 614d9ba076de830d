package mac_test

import (
	"slices"
	"testing"

	"roamwave/api"
	"roamwave/mac"
)

// room makes a list with spare room behind it, all of it filled, and answers the whole and the list.
func room[T any](l []T, fill T) (whole, list []T) {
	whole = append(slices.Clone(l), fill, fill, fill, fill)
	return whole, whole[:len(l)]
}

// spoil all of a list, the room behind it too.
func spoil[T any](l []T, with T) {
	l = l[:cap(l)]
	for i := range l {
		l[i] = with
	}
}

// TestHandedInStays: no call changes a list that it is handed, nor the room behind it.
func TestHandedInStays(t *testing.T) {
	items, l := room([]api.Item{{Channel: 3, Data: "abc"}, {Channel: 1}, {Channel: 2, Data: "d"}}, api.Item{Channel: 9, Data: "room"})
	before := slices.Clone(items)
	for _, size := range []int{0, 13, 14, 40, 65535, 65536} {
		mac.Join(l, size)
	}
	if !slices.Equal(items, before) {
		t.Errorf("Join left %v of %v", items, before)
	}

	channels, c := room([]api.Channel{{ID: 9, Prio: 3, Rate: 2, Depth: 9}, {ID: 1, Prio: 2, Rate: 3, Depth: 8}, {ID: 2}}, api.Channel{ID: 7, Prio: 7, Rate: 7, Depth: 7})
	was := slices.Clone(channels)
	s := shares(t, c...)
	s.Tick()
	backlog, b := room([]int{5, 6, 7}, 99)
	numbers := slices.Clone(backlog)
	for _, bytes := range []int{-1, 0, 3, 8, 100, 1000001} {
		s.Grant(b, bytes)
		s.Tick()
	}
	if !slices.Equal(channels, was) {
		t.Errorf("New left %v of %v", channels, was)
	}
	if !slices.Equal(backlog, numbers) {
		t.Errorf("Grant left %v of %v", backlog, numbers)
	}
}

// TestNothingIsKept: what the caller does with a list later is not seen.
func TestNothingIsKept(t *testing.T) {
	_, l := room([]api.Channel{{ID: 9, Prio: 3, Rate: 2, Depth: 9}, {ID: 1, Prio: 2, Rate: 3, Depth: 8}}, api.Channel{ID: 7})
	s, err := mac.New(l)
	if err != api.OK {
		t.Fatal(err)
	}
	spoil(l, api.Channel{ID: 5, Prio: 0, Rate: 100, Depth: 100})
	s.Tick()
	level(t, s, 9, 2)
	level(t, s, 1, 3)
	levelIsAbsent(t, s, 5)
	levelIsAbsent(t, s, 7)
	_, backlog := room([]int{5, 5}, 99)
	grants(t, s, backlog, 4, 1, 3)
	spoil(backlog, 1000)
	level(t, s, 9, 1)
	level(t, s, 1, 0)
	grants(t, s, []int{5, 5}, 4, 1, 3)
}

// TestAnswersAreNew: what was answered may be changed, also the room behind it, and is not changed later.
func TestAnswersAreNew(t *testing.T) {
	text := join(t, []api.Item{{Channel: 3, Data: "abc"}, {Channel: 1}}, 12)
	one, err := mac.Split(text)
	if err != api.OK {
		t.Fatal(err)
	}
	spoil(one, api.Item{Channel: 99, Data: "spoilt"})
	splits(t, text, []api.Item{{Channel: 3, Data: "abc"}, {Channel: 1}})

	s := shares(t, api.Channel{ID: 1, Prio: 1, Rate: 4, Depth: 4}, api.Channel{ID: 2, Rate: 1, Depth: 2})
	s.Tick()
	backlog := []int{3, 3}
	first, err := s.Grant(backlog, 5)
	if err != api.OK || !slices.Equal(first, []int{3, 2}) {
		t.Fatal(first, err)
	}
	second, err := s.Grant(backlog, 5)
	if err != api.OK || !slices.Equal(second, []int{2, 3}) {
		t.Fatal(second, err)
	}
	if !slices.Equal(first, []int{3, 2}) {
		t.Errorf("what was answered is now %v", first)
	}
	spoil(first, 99)
	if !slices.Equal(second, []int{2, 3}) || !slices.Equal(backlog, []int{3, 3}) {
		t.Errorf("another list is spoilt: %v, %v", second, backlog)
	}
	spoil(second, 99)
	level(t, s, 1, -1)
	level(t, s, 2, -4)
	grants(t, s, backlog, 5, 2, 3)
}

// TestSharesStandAlone: what is done with one is not seen in another of the same channels.
func TestSharesStandAlone(t *testing.T) {
	l := []api.Channel{{ID: 1, Rate: 4, Depth: 4}, {ID: 2, Rate: 1, Depth: 2}}
	one, other := shares(t, l...), shares(t, l...)
	ticks(one, 2)
	level(t, other, 1, 0)
	grants(t, other, []int{9, 9}, 9, 9, 0)
	level(t, one, 1, 4)
	level(t, one, 2, 2)
	level(t, other, 1, -9)
	fresh := shares(t, l...)
	level(t, fresh, 1, 0)
	level(t, fresh, 2, 0)
}
