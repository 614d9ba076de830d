package repeat_test

import (
	"slices"
	"testing"

	"roamwave/api"
)

// spoil all of a list, the room behind it too.
func spoil[T any](l []T, x T) {
	l = l[:cap(l)]
	for i := range l {
		l[i] = x
	}
}

// TestReportIsNotChanged: neither its gaps nor the room behind them, and what is done with them later is not seen.
func TestReportIsNotChanged(t *testing.T) {
	s := newSender(t, 2, "abcdef", "ghi")
	sendAll(t, s, 9)
	gaps := []api.Gap{{Number: 0, From: 4, To: -1}, {Number: 1, From: 1, To: 2}, {Number: 0, From: 1, To: 2}, {Number: 0, From: 9, To: 9}, {Number: 1, From: 9, To: 9}}
	before := slices.Clone(gaps)
	hears(t, s, api.OK, 2, gaps[:3]...)
	hears(t, s, api.ErrForm, 2, gaps[:4]...)
	if !slices.Equal(gaps, before) {
		t.Errorf("the gaps %v are %v now", before, gaps)
	}
	spoil(gaps, api.Gap{Number: 7, From: 7, To: 7})
	nexts(t, s, 9, api.Piece{From: 1, Data: "b"})
	nexts(t, s, 9, api.Piece{From: 4, Last: true, Data: "ef"})
	nexts(t, s, 9, api.Piece{Number: 1, From: 1, Data: "h"})
	nextIs(t, s, 9, api.ErrAbsent)
}

// TestReportsAreNew: what was told may be changed, also the room behind it, and is not changed later.
func TestReportsAreNew(t *testing.T) {
	r := newReceiver(t, 4)
	takes(t, r, api.Piece{From: 2, Data: "c"})
	takes(t, r, api.Piece{Number: 2, Data: "x"})
	want := []api.Gap{{To: 2}, {From: 3, To: -1}, {Number: 1, To: -1}, {Number: 2, From: 1, To: -1}}
	one, other := r.Report(), r.Report()
	spoil(one.Missing, api.Gap{Number: 9, From: 9, To: 9})
	if !slices.Equal(other.Missing, want) {
		t.Errorf("another report is spoilt: %v", other.Missing)
	}
	reports(t, r, 3, want...)
	takes(t, r, api.Piece{Last: true, Data: "abc"}, "abc")
	if !slices.Equal(other.Missing, want) {
		t.Errorf("what was told is changed: %v", other.Missing)
	}
	reports(t, r, 3, want[2:]...)
}

// TestUnitsAreNew: the lists of units that are told are the caller's.
func TestUnitsAreNew(t *testing.T) {
	r := newReceiver(t, 4)
	takes(t, r, api.Piece{Number: 1, Last: true, Data: "b"})
	takes(t, r, api.Piece{Number: 3, Last: true, Data: "d"})
	one, err := r.Take(api.Piece{Last: true, Data: "a"})
	if err != api.OK || !slices.Equal(one, []string{"a", "b"}) {
		t.Fatal(one, err)
	}
	other, err := r.Take(api.Piece{Number: 2, Last: true, Data: "c"})
	if err != api.OK || !slices.Equal(other, []string{"c", "d"}) || !slices.Equal(one, []string{"a", "b"}) {
		t.Fatal(one, other, err)
	}
	spoil(one, "spoilt")
	if !slices.Equal(other, []string{"c", "d"}) {
		t.Error(other)
	}
	spoil(other, "spoilt")
	reports(t, r, 4)
	takes(t, r, api.Piece{Number: 4, Last: true, Data: "e"}, "e")
}

// TestUnitsStandAlone: what comes of one unit is not seen in another, nor in one that was told.
func TestUnitsStandAlone(t *testing.T) {
	r := newReceiver(t, 3)
	takes(t, r, api.Piece{Number: 1, From: 1, Data: "bb"})
	takes(t, r, api.Piece{Number: 2, From: 2, Data: "c"})
	told, err := r.Take(api.Piece{Last: true, Data: "aaaa"})
	if err != api.OK || len(told) != 1 {
		t.Fatal(told, err)
	}
	takes(t, r, api.Piece{Number: 3, Data: "dddd"})
	takes(t, r, api.Piece{Number: 2, Last: true, Data: "cccc"})
	reports(t, r, 4, api.Gap{Number: 1, To: 1}, api.Gap{Number: 1, From: 3, To: -1}, api.Gap{Number: 3, From: 4, To: -1})
	takes(t, r, api.Piece{Number: 1, Last: true, Data: "bbbb"}, "bbbb", "cccc")
	takes(t, r, api.Piece{Number: 3, From: 3, Last: true, Data: "d"}, "dddd")
	if told[0] != "aaaa" {
		t.Errorf("what was told is %q now", told[0])
	}
}

// TestObjectsStandAlone: what is done with one is not seen in another.
func TestObjectsStandAlone(t *testing.T) {
	one, other := newSender(t, 1, "ab", "cd"), newSender(t, 2, "ef")
	nexts(t, one, 9, api.Piece{Last: true, Data: "ab"})
	nexts(t, other, 1, api.Piece{Data: "e"})
	hears(t, one, api.OK, 1)
	waits(t, one, 1)
	waits(t, other, 1)
	nexts(t, other, 9, api.Piece{From: 1, Last: true, Data: "f"})
	nexts(t, one, 9, api.Piece{Number: 1, Last: true, Data: "cd"})
	waits(t, newSender(t, 1), 0)
	r, q := newReceiver(t, 1), newReceiver(t, 2)
	takes(t, r, api.Piece{Data: "a"})
	reports(t, q, 0)
	takes(t, q, api.Piece{From: 1, Last: true, Data: "y"})
	takes(t, r, api.Piece{From: 1, Last: true, Data: "b"}, "ab")
	takes(t, q, api.Piece{Data: "x"}, "xy")
}
