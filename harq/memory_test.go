package harq_test

import (
	"slices"
	"testing"

	"roamwave/api"
	"roamwave/harq"
)

// spoil all of a list, the room behind it too.
func spoil(l []int) {
	l = l[:cap(l)]
	for i := range l {
		l[i] = 99
	}
}

// TestAnswersAreNew: what Waiting told may be changed, also the room behind it, and is not changed later.
func TestAnswersAreNew(t *testing.T) {
	s := newSender(t, 1)
	for process := range 8 {
		before := s.Waiting()
		want := slices.Clone(before)
		spoil(s.Waiting())
		waiting(t, s, want...)
		submit(t, s, "x", process)
		if !slices.Equal(before, want) {
			t.Errorf("what was told, %v, is now %v", want, before)
		}
	}
	before := s.Waiting()
	for process := range 8 {
		shoot(t, s, process)
		answer(t, s, process, true, true)
	}
	waiting(t, s)
	if !slices.Equal(before, []int{0, 1, 2, 3, 4, 5, 6, 7}) {
		t.Errorf("what was told is now %v", before)
	}
}

// TestShotsAreTheCallers: what is done to a shot is seen in no later one.
func TestShotsAreTheCallers(t *testing.T) {
	s := newSender(t, 2)
	submit(t, s, "x", 0)
	x := shoot(t, s, 0)
	x.Data, x.Flag, x.Version = "y", false, 3
	answer(t, s, 0, false, false)
	next(t, s, api.Shot{Version: 2, Flag: true, Data: "x"})
}

// TestSendersStandAlone: what one has no other one has.
func TestSendersStandAlone(t *testing.T) {
	one, other := newSender(t, 1), newSender(t, 2)
	submit(t, one, "one", 0)
	waiting(t, other)
	submit(t, other, "other", 0)
	next(t, one, api.Shot{Flag: true, Data: "one"})
	next(t, other, api.Shot{Flag: true, Data: "other"})
	answer(t, one, 0, false, true)
	answer(t, other, 0, false, false)
	submit(t, one, "two", 0)
	next(t, one, api.Shot{Data: "two"})
	next(t, other, api.Shot{Version: 2, Flag: true, Data: "other"})
	submit(t, newSender(t, 1), "new", 0)
	waiting(t, one, 0)
}

// TestReceiversStandAlone: what one has heard no other one has.
func TestReceiversStandAlone(t *testing.T) {
	one, other := harq.NewReceiver(), harq.NewReceiver()
	x := api.Shot{Process: 4, Flag: true, Data: "x"}
	takes(t, "one", one, x, true, freshly("x"))
	takes(t, "the other one", other, x, false, neither)
	takes(t, "one", one, x, false, again)
	takes(t, "the other one", other, x, true, freshly("x"))
	takes(t, "a new one", harq.NewReceiver(), x, true, freshly("x"))
}
