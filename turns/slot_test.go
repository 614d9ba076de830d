package turns_test

import (
	"testing"

	"roamwave/api"
	"roamwave/turns"
)

// TestDocument: the example of the document, and what comes behind it.
func TestDocument(t *testing.T) {
	x := turnsOf(t, 2)
	users := []api.User{{Who: 1, Bytes: 100, Fits: 3}, {Who: 2, Bytes: 100, Fits: 1}}
	slots(t, x, users, 2, 2, 1, 2)
	credit(t, x, 1, 1)
	credit(t, x, 2, 1)
	slots(t, x, users, 2, 1, 2, 2)
	noCredit(t, x)
}

func TestNew(t *testing.T) {
	for _, quantum := range []int{1, 2, 100, 9999, 10000} {
		noCredit(t, turnsOf(t, quantum))
	}
	for _, quantum := range append([]int{0, 10001, 10002, 65537, 100000, 1000000}, wrongNumbers...) {
		if x, err := turns.New(quantum); x != nil || err != api.ErrArg {
			t.Errorf("New(%d): %v, %v, want %v", quantum, x, err, api.ErrArg)
		}
	}
}

// TestQuantum: it is what one visit gains.
func TestQuantum(t *testing.T) {
	for _, quantum := range []int{1, 2, 7, 9999, 10000} {
		x := turnsOf(t, quantum)
		slots(t, x, []api.User{{Who: 1, Bytes: 1000000, Fits: 10000}, {Who: 2, Bytes: 1, Fits: 1}}, 2-quantum/10000)
		credit(t, x, 1, quantum%10000)
		credit(t, x, 2, 0)
	}
}

// TestRound: users are visited by their numbers, round and round, over several slots.
func TestRound(t *testing.T) {
	x := turnsOf(t, 1)
	var users []api.User
	for who := 1; who <= 16; who++ {
		users = append(users, api.User{Who: who, Bytes: 1000, Fits: 1})
	}
	slots(t, x, users, 1, 2, 3, 4, 5)
	slots(t, x, users, 6, 7, 8, 9, 10, 11, 12, 13, 14)
	slots(t, x, users, 15, 16, 1, 2)
	slots(t, x, users)
	slots(t, x, users[:2], 1, 2, 1)
	slots(t, x, users[14:], 15, 16, 15)
	slots(t, x, users, 16, 1)
	noCredit(t, x)
}

// TestBeginsBehindTheLast: also if the one who was visited last, or the one behind, is gone or has nothing.
func TestBeginsBehindTheLast(t *testing.T) {
	x := turnsOf(t, 1)
	one, two, three := api.User{Who: 1, Bytes: 9, Fits: 1}, api.User{Who: 2, Bytes: 9, Fits: 1}, api.User{Who: 3, Bytes: 9, Fits: 1}
	slots(t, x, []api.User{one, two, three}, 1)
	slots(t, x, []api.User{one, three}, 3)
	slots(t, x, []api.User{two, three}, 2)
	slots(t, x, []api.User{one, {Who: 3, Fits: 1}}, 1)
	slots(t, x, []api.User{one, {Who: 2, Fits: 1}, three}, 3)
	slots(t, x, []api.User{three}, 3)
	slots(t, x, []api.User{one, two, three}, 1)
}

// TestNobody: blocks are nobody's when nobody waits any more, and only behind all others.
func TestNobody(t *testing.T) {
	x := turnsOf(t, 5)
	slots(t, x, nil)
	slots(t, x, nil, 0, 0, 0)
	slots(t, x, []api.User{}, 0)
	slots(t, x, []api.User{{Who: 1, Fits: 1}, {Who: 16, Fits: 10000}}, 0, 0)
	noCredit(t, x)
	slots(t, x, []api.User{{Who: 2, Bytes: 3, Fits: 2}, {Who: 3, Bytes: 1, Fits: 9}}, 2, 2, 3, 0, 0)
	noCredit(t, x)
	slots(t, x, []api.User{{Who: 1, Bytes: 1, Fits: 1}, {Who: 4, Bytes: 1, Fits: 1}}, 4, 1, 0)
	if l := slot(t, x, nil, 100); l[0] != 0 || l[99] != 0 {
		t.Errorf("nobody waits: %v", l)
	}
}

// TestNobodyIsVisitedInVain: without blocks, or without Bytes, neither credits nor who is next change.
func TestNobodyIsVisitedInVain(t *testing.T) {
	x := turnsOf(t, 2)
	users := []api.User{{Who: 1, Bytes: 100, Fits: 3}, {Who: 2, Bytes: 100, Fits: 2}, {Who: 3, Bytes: 100, Fits: 2}}
	slots(t, x, users, 2)
	for _, idle := range [][]api.User{nil, {{Who: 1, Fits: 3}}, {{Who: 1, Fits: 3}, {Who: 3, Fits: 2}}} {
		slots(t, x, idle)
		slots(t, x, idle, 0, 0)
		credit(t, x, 1, 2)
	}
	slots(t, x, users)
	credit(t, x, 1, 2)
	slots(t, x, users, 3, 1)
	credit(t, x, 1, 1)
}

// TestBytes: as many blocks as Bytes need, the last one not full; then the credit that is left is lost.
func TestBytes(t *testing.T) {
	for _, of := range []struct{ bytes, fits, want int }{
		{1, 1, 1}, {1, 2, 1}, {2, 2, 1}, {3, 2, 2}, {4, 2, 2}, {5, 2, 3}, {1, 10000, 1}, {10001, 10000, 2}, {1000000, 10000, 100}, {990000, 10000, 99}, {990001, 10000, 100}, {99, 1, 99},
	} {
		x := turnsOf(t, 10000)
		l := slot(t, x, []api.User{{Who: 7, Bytes: of.bytes, Fits: of.fits}}, 100)
		n := 0
		for n < 100 && l[n] == 7 {
			n++
		}
		if n != of.want || (n < 100 && l[n] != 0) {
			t.Errorf("%d bytes, %d a block: %d blocks, want %d", of.bytes, of.fits, n, of.want)
		}
		noCredit(t, x)
	}
}

// TestMuchIsGained: who needs far more than the quantum is given a block as soon as enough is gained, and no sooner.
func TestMuchIsGained(t *testing.T) {
	x := turnsOf(t, 1)
	slots(t, x, []api.User{{Who: 1, Bytes: 1000000, Fits: 100}, {Who: 2, Bytes: 1000000, Fits: 99}}, 2, 1)
	credit(t, x, 2, 0)
	credit(t, x, 1, 0)
	slots(t, x, []api.User{{Who: 16, Bytes: 20000, Fits: 10000}}, 16, 16, 0)
	noCredit(t, x)
	slots(t, turnsOf(t, 1), []api.User{{Who: 16, Bytes: 20001, Fits: 10000}}, 16, 16, 16, 0)
	if l := slot(t, turnsOf(t, 1), []api.User{{Who: 16, Bytes: 1000000, Fits: 10000}}, 100); l[0] != 16 || l[99] != 16 {
		t.Errorf("one waits alone: %v", l)
	}
}

// TestWrongUsers: each bound, of each user of the list; and nothing is changed.
func TestWrongUsers(t *testing.T) {
	x := turnsOf(t, 2)
	good := []api.User{{Who: 3, Bytes: 100, Fits: 3}, {Who: 5, Bytes: 100, Fits: 1}, {Who: 9, Bytes: 100, Fits: 2}}
	slots(t, x, good, 5)
	wrong := func(what string, i int, u api.User) {
		t.Helper()
		l := append([]api.User{}, good...)
		l[i] = u
		for _, blocks := range []int{0, 1, 100} {
			slotIs(t, what, x, l, blocks)
			slotIs(t, what+" alone", x, []api.User{u}, blocks)
		}
	}
	for i, u := range good {
		for _, who := range wrongUsers {
			wrong("Who", i, api.User{Who: who, Bytes: u.Bytes, Fits: u.Fits})
		}
		for _, bytes := range wrongNumbers {
			wrong("Bytes", i, api.User{Who: u.Who, Bytes: bytes, Fits: u.Fits})
		}
		for _, fits := range append([]int{0, 10001, 10002, 1000000}, wrongNumbers...) {
			wrong("Fits", i, api.User{Who: u.Who, Bytes: u.Bytes, Fits: fits})
			wrong("Fits without Bytes", i, api.User{Who: u.Who, Fits: fits})
		}
	}
	credit(t, x, 3, 2)
	credit(t, x, 5, 1)
	slots(t, x, good, 5, 9, 3)
}

// TestNotRising: nobody stands twice, or behind a greater number.
func TestNotRising(t *testing.T) {
	x := turnsOf(t, 2)
	of := func(numbers ...int) []api.User {
		var l []api.User
		for _, who := range numbers {
			l = append(l, api.User{Who: who, Bytes: 9, Fits: 1})
		}
		return l
	}
	for _, l := range [][]api.User{of(1, 1), of(16, 16), of(2, 1), of(16, 1), of(1, 2, 2), of(1, 1, 2), of(1, 3, 2), of(3, 4, 3), of(2, 4, 8, 7, 9),
		of(1, 2, 3, 4, 5, 6, 7, 8, 9, 10, 11, 12, 13, 14, 15, 16, 16), of(1, 2, 3, 4, 5, 6, 7, 8, 9, 10, 11, 12, 13, 14, 15, 16, 17), make([]api.User, 1000)} {
		slotIs(t, "not rising", x, l, 1)
	}
	slotIs(t, "twice, without Bytes", x, []api.User{{Who: 2, Fits: 1}, {Who: 2, Fits: 1}}, 1)
	noCredit(t, x)
	slots(t, x, of(1, 2, 3, 4, 5, 6, 7, 8, 9, 10, 11, 12, 13, 14, 15, 16), 1, 1, 2, 2)
	slots(t, x, of(16), 16)
}

func TestWrongBlocks(t *testing.T) {
	x := turnsOf(t, 2)
	users := []api.User{{Who: 1, Bytes: 1000, Fits: 3}, {Who: 2, Bytes: 1000, Fits: 1}}
	slots(t, x, users, 2)
	for _, blocks := range append([]int{101, 102, 1000, 10000, 1000000}, wrongNumbers...) {
		slotIs(t, "blocks", x, users, blocks)
		slotIs(t, "blocks for nobody", x, nil, blocks)
		slotIs(t, "blocks for wrong users", x, []api.User{{}}, blocks)
	}
	credit(t, x, 1, 2)
	credit(t, x, 2, 1)
	slots(t, x, users, 2, 1, 2)
	slot(t, x, users, 100)
}
