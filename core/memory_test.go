package core_test

import (
	"slices"
	"testing"

	"roamwave/api"
)

// spoil all of a list, the room behind it too.
func spoil(l []int) {
	l = l[:cap(l)]
	for i := range l {
		l[i] = -77
	}
}

// TestCellsOfAPageAreNew: the lists are the caller's, and one Page's are not another's.
func TestCellsOfAPageAreNew(t *testing.T) {
	c := coreWith(t, 10, 20)
	is(t, "Join", c.Join(2, 20), api.OK)
	is(t, "Attach", c.Attach(2, 6), api.OK)
	page := func(who int) []int {
		t.Helper()
		l, err := c.Page(who)
		is(t, "Page", err, api.OK)
		return l
	}
	one, other, third := page(1), page(1), page(2)
	spoil(one)
	if !slices.Equal(other, []int{5}) || !slices.Equal(third, []int{6}) {
		t.Errorf("told %v and %v", other, third)
	}
	spoil(other)
	pages(t, c, 1, 5)
	is(t, "Hand", c.Hand(1, 5, 99), api.OK)
	if !slices.Equal(third, []int{6}) {
		t.Errorf("told %v", third)
	}
	is(t, "Sleep", c.Sleep(1), api.OK)
	is(t, "Sleep", c.Sleep(2), api.OK)
	one, other, third = page(1), page(1), page(2)
	spoil(one)
	spoil(third)
	if !slices.Equal(other, []int{97, 98, 99, 100}) {
		t.Errorf("told %v", other)
	}
	spoil(other)
	pages(t, c, 1, 97, 98, 99, 100)
	pages(t, c, 2, 1, 2, 3, 4, 5, 6, 7, 8)
}

// TestRecordIsACopy: what the caller does with it is not seen, and what is done later is not seen in it.
func TestRecordIsACopy(t *testing.T) {
	c := coreWith(t, 10, 20)
	r, _ := c.Record(1)
	lends(t, c, 1, 1, 10)
	if r != (api.Record{Left: 20}) {
		t.Errorf("what was told is %+v now", r)
	}
	r.Left, r.Lent, r.Charged = 5, 6, 7
	record(t, c, 1, 10, 10, 0)
}

// TestErrorsChangeNothing: whatever went wrong, what is done next is answered as if it had not been.
func TestErrorsChangeNothing(t *testing.T) {
	c := coreWith(t, 10, 25)
	lends(t, c, 1, 1, 10)
	lends(t, c, 1, 2, 10)
	reports(t, c, 1, 1, 3, true, api.OK)
	wrong := func() {
		t.Helper()
		is(t, "Join", c.Join(1, 9), api.ErrThere)
		is(t, "Join", c.Join(0, 9), api.ErrArg)
		is(t, "Attach", c.Attach(1, 7), api.ErrState)
		is(t, "Attach", c.Attach(1, 0), api.ErrArg)
		is(t, "Wake", c.Wake(1, 101), api.ErrArg)
		is(t, "Hand", c.Hand(1, 6, 7), api.ErrState)
		is(t, "Hand", c.Hand(1, 5, 0), api.ErrArg)
		is(t, "Leave", c.Leave(2), api.ErrUnknown)
		reports(t, c, 9, 1, 0, true, api.ErrAbsent)
		reports(t, c, 1, 1, 3, true, api.ErrThere)
		reports(t, c, 2, 2, 3, true, api.ErrForm)
		reports(t, c, 1, 2, 3, true, api.ErrState)
		reports(t, c, 2, 1, 11, true, api.ErrQuota)
		reports(t, c, 2, 1, -1, true, api.ErrQuota)
	}
	wrong()
	is(t, "Wake", c.Wake(1, 7), api.ErrState)
	pages(t, c, 1, 5)
	record(t, c, 1, 12, 10, 3)
	is(t, "Sleep", c.Sleep(1), api.OK)
	wrong()
	is(t, "Sleep", c.Sleep(1), api.ErrState)
	lendIs(t, c, 1, api.ErrState)
	pages(t, c, 1, 1, 2, 3, 4, 5, 6, 7, 8)
	record(t, c, 1, 12, 10, 3)
	is(t, "Wake", c.Wake(1, 5), api.OK)
	reports(t, c, 2, 1, 10, false, api.OK)
	lends(t, c, 1, 3, 10)
	lends(t, c, 1, 4, 2)
	lendIs(t, c, 1, api.ErrQuota)
	record(t, c, 1, 0, 12, 13)
}

// TestObjectsStandAlone: what is done with one is not seen in another.
func TestObjectsStandAlone(t *testing.T) {
	one, other := coreWith(t, 10, 25), coreWith(t, 3, 7)
	lends(t, one, 1, 1, 10)
	is(t, "Join", one.Join(2, 1), api.OK)
	recordIs(t, other, 2, api.ErrUnknown)
	reports(t, other, 1, 1, 0, false, api.ErrAbsent)
	lends(t, other, 1, 1, 3)
	lends(t, one, 1, 2, 10)
	reports(t, other, 1, 1, 2, true, api.OK)
	reports(t, one, 1, 1, 4, false, api.OK)
	is(t, "Leave", other.Leave(1), api.OK)
	pages(t, one, 1, 5)
	record(t, one, 1, 5, 16, 4)
	record(t, other, 1, 5, 0, 2)
}
