package core_test

import (
	"math"
	"testing"

	"roamwave/api"
	"roamwave/core"
)

// TestNew: a unit is from 1 to 1000000.
func TestNew(t *testing.T) {
	for _, unit := range []int{1, 2, 100, 999999, 1000000} {
		newCore(t, unit)
	}
	for _, unit := range []int{0, -1, -1000000, 1000001, 1 << 32, 1<<32 + 1, -1<<32 + 1, math.MaxInt, math.MinInt} {
		if c, err := core.New(unit); c != nil || err != api.ErrArg {
			t.Errorf("New(%d): %v, %v", unit, c, err)
		}
	}
}

// TestJoin: who is from 1 to 16, a quota from 0 to 10^9, and nobody joins twice.
func TestJoin(t *testing.T) {
	c := newCore(t, 10)
	for _, who := range wrongUsers {
		is(t, "Join", c.Join(who, 5), api.ErrArg)
		is(t, "Join", c.Join(who, -1), api.ErrArg)
		recordIs(t, c, who, api.ErrUnknown)
	}
	for _, quota := range []int{-1, -2, -1000000000, 1000000001, 1 << 31, 1 << 32, 1<<32 + 5, -1<<32 + 5, math.MaxInt, math.MinInt} {
		is(t, "Join", c.Join(1, quota), api.ErrArg)
	}
	recordIs(t, c, 1, api.ErrUnknown)
	for i, quota := range []int{0, 1, 999999999, 1000000000} {
		is(t, "Join", c.Join(i+1, quota), api.OK)
		record(t, c, i+1, quota, 0, 0)
		is(t, "Join", c.Join(i+1, 7), api.ErrThere)
		is(t, "Join", c.Join(i+1, quota), api.ErrThere)
		is(t, "Join", c.Join(i+1, 1000000001), api.ErrArg)
		is(t, "Join", c.Join(i+1, -1), api.ErrArg)
		record(t, c, i+1, quota, 0, 0)
	}
	for who := 5; who <= 16; who++ {
		recordIs(t, c, who, api.ErrUnknown)
		is(t, "Join", c.Join(who, who), api.OK)
		pageIs(t, c, who, api.ErrState)
		record(t, c, who, who, 0, 0)
	}
}

// TestJoinedOnce: who left is still there, and does not join again.
func TestJoinedOnce(t *testing.T) {
	c := coreWith(t, 10, 50)
	is(t, "Join awake", c.Join(1, 50), api.ErrThere)
	pages(t, c, 1, 5)
	is(t, "Sleep", c.Sleep(1), api.OK)
	is(t, "Join asleep", c.Join(1, 50), api.ErrThere)
	is(t, "Leave", c.Leave(1), api.OK)
	is(t, "Join away", c.Join(1, 60), api.ErrThere)
	record(t, c, 1, 50, 0, 0)
	is(t, "Attach", c.Attach(1, 100), api.OK)
	pages(t, c, 1, 100)
}

// unknown fails unless all calls say that somebody did not join, whatever else is wrong.
func unknown(t *testing.T, c *core.Core, who int) {
	t.Helper()
	for _, cell := range append([]int{1, 5, 100}, wrongCells...) {
		is(t, "Attach", c.Attach(who, cell), api.ErrUnknown)
		is(t, "Wake", c.Wake(who, cell), api.ErrUnknown)
		is(t, "Hand", c.Hand(who, cell, 5), api.ErrUnknown)
		is(t, "Hand", c.Hand(who, 5, cell), api.ErrUnknown)
		is(t, "Hand", c.Hand(who, cell, cell), api.ErrUnknown)
	}
	is(t, "Leave", c.Leave(who), api.ErrUnknown)
	is(t, "Sleep", c.Sleep(who), api.ErrUnknown)
	pageIs(t, c, who, api.ErrUnknown)
	lendIs(t, c, who, api.ErrUnknown)
	recordIs(t, c, who, api.ErrUnknown)
}

// TestUnknown: who did not join, and numbers that nobody has.
func TestUnknown(t *testing.T) {
	c := newCore(t, 10)
	unknown(t, c, 1)
	is(t, "Join", c.Join(1, 20), api.OK)
	is(t, "Attach", c.Attach(1, 5), api.OK)
	for who := 2; who <= 16; who++ {
		unknown(t, c, who)
	}
	for _, who := range wrongUsers {
		unknown(t, c, who)
	}
	is(t, "Join", c.Join(17, 20), api.ErrArg)
	unknown(t, c, 17)
	is(t, "Join", c.Join(2, -1), api.ErrArg)
	unknown(t, c, 2)
	pages(t, c, 1, 5)
	record(t, c, 1, 20, 0, 0)
}

// TestAway: who is away can attach, and nothing else.
func TestAway(t *testing.T) {
	c := newCore(t, 10)
	is(t, "Join", c.Join(3, 20), api.OK)
	away := func() {
		t.Helper()
		is(t, "Leave", c.Leave(3), api.ErrState)
		is(t, "Sleep", c.Sleep(3), api.ErrState)
		is(t, "Wake", c.Wake(3, 5), api.ErrState)
		is(t, "Hand", c.Hand(3, 5, 6), api.ErrState)
		is(t, "Hand", c.Hand(3, 5, 5), api.ErrState)
		pageIs(t, c, 3, api.ErrState)
		lendIs(t, c, 3, api.ErrState)
	}
	away()
	is(t, "Attach", c.Attach(3, 5), api.OK)
	is(t, "Leave", c.Leave(3), api.OK)
	away()
	is(t, "Attach", c.Attach(3, 5), api.OK)
	is(t, "Sleep", c.Sleep(3), api.OK)
	is(t, "Leave", c.Leave(3), api.OK)
	away()
	is(t, "Attach", c.Attach(3, 9), api.OK)
	pages(t, c, 3, 9)
}

// TestAwake: who is awake can sleep, leave and be handed on, and is neither attached nor woken.
func TestAwake(t *testing.T) {
	c := coreWith(t, 10, 20)
	awake := func(at int) {
		t.Helper()
		is(t, "Attach", c.Attach(1, at), api.ErrState)
		is(t, "Attach", c.Attach(1, 50), api.ErrState)
		is(t, "Wake", c.Wake(1, at), api.ErrState)
		is(t, "Wake", c.Wake(1, 50), api.ErrState)
		pages(t, c, 1, at)
	}
	awake(5)
	is(t, "Hand", c.Hand(1, 5, 99), api.OK)
	awake(99)
	is(t, "Sleep", c.Sleep(1), api.OK)
	is(t, "Wake", c.Wake(1, 12), api.OK)
	awake(12)
	is(t, "Leave", c.Leave(1), api.OK)
	is(t, "Attach", c.Attach(1, 2), api.OK)
	awake(2)
}

// TestAsleep: who is asleep can be woken and can leave, and nothing else.
func TestAsleep(t *testing.T) {
	c := coreWith(t, 10, 20)
	is(t, "Sleep", c.Sleep(1), api.OK)
	is(t, "Attach", c.Attach(1, 5), api.ErrState)
	is(t, "Attach", c.Attach(1, 6), api.ErrState)
	is(t, "Sleep", c.Sleep(1), api.ErrState)
	is(t, "Hand", c.Hand(1, 5, 6), api.ErrState)
	is(t, "Hand", c.Hand(1, 5, 5), api.ErrState)
	lendIs(t, c, 1, api.ErrState)
	pages(t, c, 1, 1, 2, 3, 4, 5, 6, 7, 8)
	is(t, "Wake", c.Wake(1, 5), api.OK)
	lends(t, c, 1, 1, 10)
}

// TestWakeElsewhere: who is woken is at the cell that is told, in the same area or not.
func TestWakeElsewhere(t *testing.T) {
	c := coreWith(t, 10, 20)
	for _, cell := range []int{5, 6, 1, 100, 97, 8, 9} {
		is(t, "Sleep", c.Sleep(1), api.OK)
		is(t, "Wake", c.Wake(1, cell), api.OK)
		pages(t, c, 1, cell)
	}
}

// TestCells: from 1 to 100; of others each call tells ErrArg, in whatever state somebody is.
func TestCells(t *testing.T) {
	c := newCore(t, 10)
	is(t, "Join", c.Join(1, 20), api.OK)
	wrong := func() {
		t.Helper()
		for _, cell := range wrongCells {
			is(t, "Attach", c.Attach(1, cell), api.ErrArg)
			is(t, "Wake", c.Wake(1, cell), api.ErrArg)
			is(t, "Hand from none", c.Hand(1, cell, 5), api.ErrArg)
			is(t, "Hand to none", c.Hand(1, 5, cell), api.ErrArg)
			is(t, "Hand from elsewhere to none", c.Hand(1, 50, cell), api.ErrArg)
			is(t, "Hand from none to none", c.Hand(1, cell, cell), api.ErrArg)
		}
	}
	wrong()
	pageIs(t, c, 1, api.ErrState)
	for cell := 1; cell <= 100; cell++ {
		is(t, "Attach", c.Attach(1, cell), api.OK)
		pages(t, c, 1, cell)
		is(t, "Leave", c.Leave(1), api.OK)
	}
	is(t, "Attach", c.Attach(1, 5), api.OK)
	wrong()
	pages(t, c, 1, 5)
	for to, from := 1, 5; to <= 100; from, to = to, to+1 {
		is(t, "Hand", c.Hand(1, from, to), api.OK)
		pages(t, c, 1, to)
	}
	is(t, "Hand", c.Hand(1, 100, 5), api.OK)
	is(t, "Sleep", c.Sleep(1), api.OK)
	wrong()
	pages(t, c, 1, 1, 2, 3, 4, 5, 6, 7, 8)
	for cell := 1; cell <= 100; cell++ {
		is(t, "Wake", c.Wake(1, cell), api.OK)
		pages(t, c, 1, cell)
		is(t, "Sleep", c.Sleep(1), api.OK)
	}
}

// TestHandFrom: only from where somebody is, be it another cell of the same area; and to where it is already.
func TestHandFrom(t *testing.T) {
	c := coreWith(t, 10, 20)
	for from := 1; from <= 100; from++ {
		if from != 5 {
			is(t, "Hand", c.Hand(1, from, 7), api.ErrState)
			is(t, "Hand", c.Hand(1, from, 5), api.ErrState)
		}
	}
	pages(t, c, 1, 5)
	is(t, "Hand", c.Hand(1, 5, 5), api.OK)
	pages(t, c, 1, 5)
	is(t, "Hand", c.Hand(1, 5, 6), api.OK)
	is(t, "Hand", c.Hand(1, 5, 7), api.ErrState)
	pages(t, c, 1, 6)
}

// TestPage: of who sleeps all cells of the area, spelt out at its edges; the last area has four.
func TestPage(t *testing.T) {
	first, last, end := []int{1, 2, 3, 4, 5, 6, 7, 8}, []int{89, 90, 91, 92, 93, 94, 95, 96}, []int{97, 98, 99, 100}
	for cell, want := range map[int][]int{1: first, 4: first, 7: first, 8: first, 9: {9, 10, 11, 12, 13, 14, 15, 16}, 16: {9, 10, 11, 12, 13, 14, 15, 16},
		17: {17, 18, 19, 20, 21, 22, 23, 24}, 89: last, 96: last, 97: end, 98: end, 99: end, 100: end} {
		c := newCore(t, 10)
		is(t, "Join", c.Join(1, 20), api.OK)
		is(t, "Attach", c.Attach(1, cell), api.OK)
		pages(t, c, 1, cell)
		is(t, "Sleep", c.Sleep(1), api.OK)
		pages(t, c, 1, want...)
		pages(t, c, 1, want...)
	}
}

// TestPageBehindHand: the area is that of the cell where somebody fell asleep, not where it attached.
func TestPageBehindHand(t *testing.T) {
	c := coreWith(t, 10, 20)
	is(t, "Hand", c.Hand(1, 5, 98), api.OK)
	is(t, "Sleep", c.Sleep(1), api.OK)
	pages(t, c, 1, 97, 98, 99, 100)
	is(t, "Wake", c.Wake(1, 30), api.OK)
	is(t, "Sleep", c.Sleep(1), api.OK)
	pages(t, c, 1, 25, 26, 27, 28, 29, 30, 31, 32)
}
