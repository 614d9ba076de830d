package guard_test

import (
	"slices"
	"testing"

	"roamwave/api"
)

// spoil all of a list, the room behind it too.
func spoil[T any](l []T, x T) {
	l = l[:cap(l)]
	for i := range l {
		l[i] = x
	}
}

// TestPacketsOfAMoveAreNew: the lists are the caller's, and one Move's are not another's.
func TestPacketsOfAMoveAreNew(t *testing.T) {
	s := newSender(t, 1)
	for i, data := range []string{"one", "two", "three"} {
		sends(t, s, data, packet(t, 1, i, data))
	}
	confirms(t, s, 0, api.OK)
	one := good[[]api.Packet](t)(s.Move(2))
	other := good[[]api.Packet](t)(s.Move(2))
	want := []api.Packet{packet(t, 2, 1, "two"), packet(t, 2, 2, "three")}
	spoil(one, api.Packet{Short: 9, Data: "spoilt", Seal: "bad"})
	sends(t, s, "four", packet(t, 2, 3, "four"))
	confirms(t, s, 1, api.OK)
	if !slices.Equal(other, want) {
		t.Errorf("what was told is %#v now, want %#v", other, want)
	}
	spoil(other, api.Packet{Short: 8, Data: "spoilt", Seal: "bad"})
	moves(t, s, 3, packet(t, 3, 2, "three"), packet(t, 3, 3, "four"))
}

// TestDataThatIsToldIsNew: by Take and by Flush.
func TestDataThatIsToldIsNew(t *testing.T) {
	r := newReceiver(t, 1)
	takes(t, r, packet(t, 1, 1, "b"))
	takes(t, r, packet(t, 1, 3, "d"))
	one := good[[]string](t)(r.Take(packet(t, 1, 0, "a")))
	spoil(one[len(one):], "spoilt")
	takes(t, r, packet(t, 1, 5, "f"))
	other := r.Flush()
	spoil(other[len(other):], "spoilt")
	takes(t, r, packet(t, 1, 7, "h"))
	last := good[[]string](t)(r.Take(packet(t, 1, 6, "g")))
	if !slices.Equal(one, []string{"a", "b"}) || !slices.Equal(other, []string{"d", "f"}) || !slices.Equal(last, []string{"g", "h"}) {
		t.Fatalf("told %q, %q, %q", one, other, last)
	}
	spoil(one, "spoilt")
	spoil(last, "spoilt")
	if !slices.Equal(other, []string{"d", "f"}) {
		t.Errorf("another list is spoilt: %q", other)
	}
	takes(t, r, packet(t, 1, 9, "j"))
	takes(t, r, packet(t, 1, 8, "i"), "i", "j")
}

// TestErrorsChangeNothing: whatever went wrong, what is done next is answered as if it had not been.
func TestErrorsChangeNothing(t *testing.T) {
	s, r := newSender(t, 1), newReceiver(t, 1)
	wrong := func() {
		t.Helper()
		sendIs(t, s, string(make([]byte, 501)), api.ErrLarge)
		confirms(t, s, 9, api.ErrAbsent)
		confirms(t, s, -1, api.ErrAbsent)
		if l, err := s.Move(-1); l != nil || err != api.ErrArg {
			t.Errorf("Move: %v, %v", l, err)
		}
		takeIs(t, r, api.Packet{Short: -1, Seal: "abc"}, api.ErrForm)
		takeIs(t, r, api.Packet{Short: 4095, Seal: "abc"}, api.ErrForm)
		takeIs(t, r, api.Packet{Short: 9, Seal: "abc"}, api.ErrSum)
		rekeys(t, r, -1, api.ErrArg)
	}
	wrong()
	sends(t, s, "one", packet(t, 1, 0, "one"))
	takes(t, r, packet(t, 1, 1, "two"))
	wrong()
	takeIs(t, r, packet(t, 1, 1, "TWO"), api.ErrThere)
	sends(t, s, "two", packet(t, 1, 1, "two"))
	takes(t, r, packet(t, 1, 0, "one"), "one", "two")
	wrong()
	takeIs(t, r, packet(t, 1, 1, "TWO"), api.ErrOld)
	moves(t, s, 1, packet(t, 1, 0, "one"), packet(t, 1, 1, "two"))
	counts(t, r, 2)
	flushes(t, r)
}

// TestObjectsStandAlone: what is done with one is not seen in another.
func TestObjectsStandAlone(t *testing.T) {
	one, other := newSender(t, 1), newSender(t, 1)
	sends(t, one, "a", packet(t, 1, 0, "a"))
	sends(t, one, "b", packet(t, 1, 1, "b"))
	sends(t, other, "c", packet(t, 1, 0, "c"))
	confirms(t, other, 1, api.ErrAbsent)
	moves(t, one, 5, packet(t, 5, 0, "a"), packet(t, 5, 1, "b"))
	sends(t, other, "d", packet(t, 1, 1, "d"))
	confirms(t, one, 1, api.OK)
	moves(t, other, 6, packet(t, 6, 0, "c"), packet(t, 6, 1, "d"))
	r, q := newReceiver(t, 1), newReceiver(t, 1)
	takes(t, r, packet(t, 1, 1, "b"))
	takes(t, q, packet(t, 1, 1, "y"))
	rekeys(t, r, 2, api.OK)
	takes(t, q, packet(t, 1, 0, "x"), "x", "y")
	counts(t, r, 0)
	flushes(t, q)
	takes(t, r, packet(t, 2, 0, "a"), "a", "b")
}
