package net_test

import (
	"testing"

	"roamwave/net"
)

// TestNetsStandAlone: what is done with one is not seen in another.
func TestNetsStandAlone(t *testing.T) {
	one, other := netWith(t, 1, 2), net.New()
	does(t, one, "send 1 hello", "air 2 lost", "hand 2 9")
	says(t, other, "look 1", "error 12")
	does(t, other, "user 1 50", "user 2 60", "send 2 other")
	ticks(t, other, 1)
	told(t, one, 1)
	told(t, other, 1)
	told(t, other, 2, "other")
	looks(t, one, 2, 9, 0, 0, 10000, 0, 0)
	looks(t, other, 2, 1, 1, 0, 55, 0, 5)
	ticks(t, one, 1)
	told(t, one, 1, "hello")
	told(t, one, 2)
}

// TestLooksChangeNothing: however often somebody is looked at, or asked what it was told.
func TestLooksChangeNothing(t *testing.T) {
	n := netWith(t, 1)
	does(t, n, "send 1 more than one piece of it")
	for range 3 {
		for range 5 {
			looks(t, n, 1, 1, 0, 1, 9900, 100, 0)
			told(t, n, 1)
		}
		does(t, n, "tick")
	}
	told(t, n, 1, "more than one piece of it")
	told(t, n, 1, "more than one piece of it")
}

// TestErrorsChangeNothing: whatever went wrong, what is done next is answered as if it had not been.
func TestErrorsChangeNothing(t *testing.T) {
	n := net.New()
	does(t, n, "user 1 105", "send 1 hello")
	wrong := func() {
		t.Helper()
		says(t, n, "user 1 999", "error 10")
		says(t, n, "user 0 999", "error 1")
		says(t, n, "user 17 999", "error 1")
		says(t, n, "send 1 sixsix", "error 11")
		says(t, n, "send 2 x", "error 12")
		says(t, n, "air 2 lost", "error 12")
		says(t, n, "air 1 none", "bad")
		says(t, n, "hand 1 0", "error 1")
		says(t, n, "hand 1 101", "error 1")
		says(t, n, "hand 2 5", "error 12")
	}
	for range 70 {
		wrong()
	}
	looks(t, n, 1, 1, 0, 1, 5, 100, 0)
	tellsAt(t, n, 1, 1)
	looks(t, n, 1, 1, 1, 0, 100, 0, 5)
	does(t, n, "send 1 seven..")
	looks(t, n, 1, 1, 1, 1, 0, 100, 5)
	ticks(t, n, 1)
	told(t, n, 1, "hello", "seven..")
	looks(t, n, 1, 1, 2, 0, 93, 0, 12)
}
