package turns_test

import (
	"testing"

	"roamwave/api"
)

// TestCreditOfNobody: other numbers than users' have none, whatever was done.
func TestCreditOfNobody(t *testing.T) {
	x := turnsOf(t, 7)
	var users []api.User
	for who := 1; who <= 15; who++ {
		users = append(users, api.User{Who: who, Bytes: 1000, Fits: 10000})
	}
	users = append(users, api.User{Who: 16, Bytes: 1000, Fits: 1})
	slots(t, x, users, 16)
	for who := 1; who <= 15; who++ {
		credit(t, x, who, 7)
	}
	credit(t, x, 16, 6)
	for _, who := range wrongUsers {
		credit(t, x, who, 0)
	}
}

// TestCreditStays: what is too little for a block is there at the next visit.
func TestCreditStays(t *testing.T) {
	x := turnsOf(t, 4)
	users := []api.User{{Who: 1, Bytes: 1000, Fits: 10}, {Who: 2, Bytes: 1000, Fits: 4}}
	for _, want := range []int{4, 8} {
		slots(t, x, users, 2)
		credit(t, x, 1, want)
		credit(t, x, 2, 0)
	}
	slots(t, x, users, 1)
	credit(t, x, 1, 2)
	slots(t, x, users, 2, 2)
	credit(t, x, 1, 6)
	slots(t, x, users, 1, 2)
	credit(t, x, 1, 0)
}

// TestCreditIsLost: by who is visited and has nothing, or is gone; not by who is not visited.
func TestCreditIsLost(t *testing.T) {
	two := api.User{Who: 2, Bytes: 1000, Fits: 1}
	for _, gone := range [][]api.User{{two}, {{Who: 1, Fits: 10}, two}, {{Who: 1, Fits: 1}, two}} {
		x := turnsOf(t, 1)
		users := []api.User{{Who: 1, Bytes: 1000, Fits: 10}, two}
		slots(t, x, users, 2, 2, 2)
		credit(t, x, 1, 3)
		slots(t, x, []api.User{{Who: 3, Bytes: 1000, Fits: 1}}, 3)
		credit(t, x, 1, 3)
		slots(t, x, gone, 2)
		credit(t, x, 1, 0)
		slots(t, x, users, 2)
		credit(t, x, 1, 1)
	}
}

// TestCreditIsLostWithTheLastByte: and a Slot ends its visits there, if nobody else has Bytes.
func TestCreditIsLostWithTheLastByte(t *testing.T) {
	x := turnsOf(t, 10)
	slots(t, x, []api.User{{Who: 1, Bytes: 30, Fits: 20}, {Who: 2, Bytes: 5, Fits: 4}}, 2, 2, 1, 1, 0)
	noCredit(t, x)
	slots(t, x, []api.User{{Who: 1, Bytes: 30, Fits: 20}, {Who: 2, Bytes: 5, Fits: 4}, {Who: 3, Bytes: 30, Fits: 15}}, 2, 2)
	credit(t, x, 1, 0)
	credit(t, x, 2, 0)
	slots(t, x, []api.User{{Who: 1, Bytes: 30, Fits: 20}, {Who: 3, Bytes: 30, Fits: 15}}, 3)
	credit(t, x, 1, 10)
	credit(t, x, 3, 5)
	slots(t, x, []api.User{{Who: 3, Bytes: 3, Fits: 15}}, 3, 0)
	noCredit(t, x)
}

// TestLastBlockLastByte: no block is left, but the user has no Bytes left either: nothing is open, the next one is visited.
func TestLastBlockLastByte(t *testing.T) {
	x := turnsOf(t, 10)
	slots(t, x, []api.User{{Who: 1, Bytes: 2, Fits: 1}, {Who: 2, Bytes: 10, Fits: 1}}, 1, 1)
	noCredit(t, x)
	slots(t, x, []api.User{{Who: 1, Bytes: 2, Fits: 1}, {Who: 2, Bytes: 1, Fits: 1}}, 2)
	noCredit(t, x)
	slots(t, x, []api.User{{Who: 1, Bytes: 2, Fits: 2}, {Who: 3, Bytes: 1, Fits: 10}}, 3)
}

// TestOpen: a visit that ends for want of blocks goes on in the next slot, and gains nothing again.
func TestOpen(t *testing.T) {
	x := turnsOf(t, 5)
	users := []api.User{{Who: 1, Bytes: 100, Fits: 2}, {Who: 2, Bytes: 100, Fits: 5}}
	slots(t, x, users, 1)
	credit(t, x, 1, 3)
	slots(t, x, users, 1, 2)
	credit(t, x, 1, 1)
	slots(t, x, users, 1)
	credit(t, x, 1, 4)
	slots(t, x, users, 1)
	credit(t, x, 1, 2)
	slots(t, x, users, 1)
	credit(t, x, 1, 0)
	slots(t, x, users, 2, 1)
	credit(t, x, 1, 3)
}

// TestNotOpen: with too little credit for another block the visit has ended.
func TestNotOpen(t *testing.T) {
	x := turnsOf(t, 5)
	users := []api.User{{Who: 1, Bytes: 100, Fits: 3}, {Who: 2, Bytes: 100, Fits: 4}}
	slots(t, x, users, 1)
	credit(t, x, 1, 2)
	slots(t, x, users, 2)
	credit(t, x, 2, 1)
	slots(t, x, users, 1)
	credit(t, x, 1, 4)
}

// TestOpenIsLost: who has an open visit and nothing any more, or is gone, loses all credit, and the next one is visited.
func TestOpenIsLost(t *testing.T) {
	two := api.User{Who: 2, Bytes: 100, Fits: 5}
	for _, gone := range [][]api.User{{two}, {{Who: 1, Fits: 2}, two}} {
		x := turnsOf(t, 5)
		users := []api.User{{Who: 1, Bytes: 100, Fits: 2}, two}
		slots(t, x, users, 1)
		credit(t, x, 1, 3)
		slots(t, x, gone, 2)
		credit(t, x, 1, 0)
		slots(t, x, users, 1, 1, 2)
		credit(t, x, 1, 1)
	}
}

// TestOpenWithLastBytes: an open visit may end by the last byte too.
func TestOpenWithLastBytes(t *testing.T) {
	x := turnsOf(t, 5)
	slots(t, x, []api.User{{Who: 1, Bytes: 100, Fits: 1}}, 1)
	slots(t, x, []api.User{{Who: 1, Bytes: 1, Fits: 1}, {Who: 2, Bytes: 5, Fits: 5}}, 1)
	noCredit(t, x)
	slots(t, x, []api.User{{Who: 1, Bytes: 1, Fits: 1}, {Who: 2, Bytes: 5, Fits: 5}}, 2)
	noCredit(t, x)
}

// TestOpenWithOtherFits: an open visit goes by what Fits is now.
func TestOpenWithOtherFits(t *testing.T) {
	two := api.User{Who: 2, Bytes: 100, Fits: 5}
	x := turnsOf(t, 5)
	slots(t, x, []api.User{{Who: 1, Bytes: 100, Fits: 2}, two}, 1)
	slots(t, x, []api.User{{Who: 1, Bytes: 100, Fits: 4}, two}, 2)
	credit(t, x, 1, 3)
	slots(t, x, []api.User{{Who: 1, Bytes: 100, Fits: 4}, two}, 1)
	credit(t, x, 1, 4)
	slots(t, x, []api.User{{Who: 1, Bytes: 100, Fits: 1}, two}, 1, 1, 1, 1, 2)
	credit(t, x, 1, 0)
}

// TestOpenOfTheLastUser: an open visit of 16 goes on, and behind it stands 1.
func TestOpenOfTheLastUser(t *testing.T) {
	x := turnsOf(t, 3)
	users := []api.User{{Who: 1, Bytes: 100, Fits: 1}, {Who: 16, Bytes: 100, Fits: 1}}
	slots(t, x, users, 1, 1, 1, 16)
	credit(t, x, 16, 2)
	slots(t, x, users, 16, 16, 1)
	credit(t, x, 16, 0)
	credit(t, x, 1, 2)
}

// TestOpenStays: a slot in which nobody is visited, and one that is refused, leave a visit open.
func TestOpenStays(t *testing.T) {
	x := turnsOf(t, 5)
	users := []api.User{{Who: 1, Bytes: 100, Fits: 2}, {Who: 2, Bytes: 100, Fits: 5}}
	slots(t, x, users, 1)
	slots(t, x, users)
	slots(t, x, nil)
	slots(t, x, nil, 0, 0)
	slots(t, x, []api.User{{Who: 1, Fits: 2}}, 0)
	slots(t, x, []api.User{{Who: 1, Bytes: 100, Fits: 9}})
	slotIs(t, "blocks", x, users, 101)
	slotIs(t, "users", x, []api.User{{Who: 1}}, 1)
	credit(t, x, 1, 3)
	slots(t, x, users, 1, 2)
	credit(t, x, 1, 1)
}
