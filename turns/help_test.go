package turns_test

import (
	"math"
	"slices"
	"testing"

	"roamwave/api"
	"roamwave/turns"
)

// wrongNumbers are of no use anywhere in this package.
var wrongNumbers = []int{-1, -2, -16, -100, -10000, 1000001, 1000002, 1 << 20, 1 << 31, 1 << 32, 1<<32 + 1, 1<<32 + 2, -1 << 32, 1 << 40,
	math.MaxInt32, math.MinInt32, math.MaxInt, math.MaxInt - 1, math.MinInt, math.MinInt + 1}

// wrongUsers are no users' numbers.
var wrongUsers = append([]int{0, 17, 18, 32, 33, 256, 257, 65537, 1000000}, wrongNumbers...)

// source of numbers that are mixed, but always the same.
type source uint64

func (s *source) below(n int) int {
	*s = *s*6364136223846793005 + 1442695040888963407
	return int(uint64(*s)>>33) % n
}

// users, some of them, with Fits and Bytes up to so many; one in four has no Bytes.
func (s *source) users(fits, bytes int) []api.User {
	var l []api.User
	often := 1 + s.below(4)
	for who := 1; who <= api.MaxUsers; who++ {
		if s.below(4) >= often {
			continue
		}
		u := api.User{Who: who, Fits: 1 + s.below(fits)}
		if s.below(4) > 0 {
			u.Bytes = 1 + s.below(bytes)
		}
		l = append(l, u)
	}
	return l
}

// turnsOf a quantum that may be.
func turnsOf(t *testing.T, quantum int) *turns.Turns {
	t.Helper()
	x, err := turns.New(quantum)
	if err != api.OK || x == nil {
		t.Fatalf("New(%d): %v, %v", quantum, x, err)
	}
	return x
}

// slot that may be; each block is somebody's of the list, or nobody's.
func slot(t *testing.T, x *turns.Turns, users []api.User, blocks int) []int {
	t.Helper()
	l, err := x.Slot(users, blocks)
	if err != api.OK || len(l) != blocks {
		t.Fatalf("Slot of %v, %d: %v, %v", users, blocks, l, err)
	}
	for _, who := range l {
		if who != 0 && !slices.ContainsFunc(users, func(u api.User) bool { return u.Who == who }) {
			t.Fatalf("Slot of %v, %d: %v", users, blocks, l)
		}
	}
	return l
}

// slots fails unless the blocks, as many as are wanted, are whose they are wanted to be.
func slots(t *testing.T, x *turns.Turns, users []api.User, want ...int) {
	t.Helper()
	if l, err := x.Slot(users, len(want)); !slices.Equal(l, want) || err != api.OK {
		t.Errorf("Slot of %v, %d: %v, %v, want %v", users, len(want), l, err, want)
	}
}

// slotIs fails unless Slot refuses what it is handed, and gives nothing.
func slotIs(t *testing.T, what string, x *turns.Turns, users []api.User, blocks int) {
	t.Helper()
	if l, err := x.Slot(users, blocks); l != nil || err != api.ErrArg {
		t.Errorf("%s: Slot of %v, %d: %v, %v, want %v", what, users, blocks, l, err, api.ErrArg)
	}
}

// credit fails unless a user's credit is the one that is wanted.
func credit(t *testing.T, x *turns.Turns, who, want int) {
	t.Helper()
	if n := x.Credit(who); n != want {
		t.Errorf("Credit(%d): %d, want %d", who, n, want)
	}
}

// noCredit fails unless nobody has any.
func noCredit(t *testing.T, x *turns.Turns) {
	t.Helper()
	for who := -1; who <= api.MaxUsers+1; who++ {
		credit(t, x, who, 0)
	}
}
