package turns_test

import (
	"slices"
	"testing"

	"roamwave/api"
)

// spokenTurns are as the chapter tells of them, sentence by sentence.
type spokenTurns struct {
	quantum int
	credits map[int]int
	last    int
	open    bool
}

// stands finds a user in a list.
func stands(users []api.User, who int) *api.User {
	for i := range users {
		if users[i].Who == who {
			return &users[i]
		}
	}
	return nil
}

// somebody tells whether anyone has Bytes left.
func somebody(users []api.User) bool {
	for _, u := range users {
		if u.Bytes > 0 {
			return true
		}
	}
	return false
}

// visit who is next, and answer the blocks that are given meanwhile, of so many that are left.
func (s *spokenTurns) visit(users []api.User, left int) []int {
	gains := s.quantum
	if s.open {
		gains = 0
	} else if s.last++; s.last == 17 {
		s.last = 1
	}
	s.open = false
	u := stands(users, s.last)
	if u == nil || u.Bytes == 0 {
		s.credits[s.last] = 0
		return nil
	}
	s.credits[s.last] += gains
	var given []int
	for left > 0 && u.Bytes > 0 && s.credits[s.last] >= u.Fits {
		given = append(given, s.last)
		left--
		if u.Bytes -= u.Fits; u.Bytes < 0 {
			u.Bytes = 0
		}
		s.credits[s.last] -= u.Fits
	}
	if u.Bytes == 0 {
		s.credits[s.last] = 0
	}
	if left == 0 && u.Bytes > 0 && s.credits[s.last] >= u.Fits {
		s.open = true
	}
	return given
}

func (s *spokenTurns) slot(users []api.User, blocks int) []int {
	users = slices.Clone(users)
	var given []int
	for len(given) < blocks && somebody(users) {
		given = append(given, s.visit(users, blocks-len(given))...)
	}
	for len(given) < blocks {
		given = append(given, 0)
	}
	return given
}

// TestTurnsAsSpoken: whatever users come, and go, blocks and credits are as the chapter says.
func TestTurnsAsSpoken(t *testing.T) {
	var from source = 5
	for turn := range 600 {
		most := []int{1, 3, 10, 40, 300}[turn%5]
		quantum := 1 + from.below(2*most)
		x, want := turnsOf(t, quantum), &spokenTurns{quantum: quantum, credits: map[int]int{}}
		users := from.users(most, 10*most)
		for range 40 {
			if from.below(3) == 0 {
				users = from.users(most, 10*most)
			}
			blocks := from.below(1 + from.below(30))
			slots(t, x, users, want.slot(users, blocks)...)
			for who := 0; who <= 17; who++ {
				credit(t, x, who, want.credits[who])
			}
			if t.Failed() {
				t.Fatalf("quantum %d", quantum)
			}
		}
	}
}

// TestGreatNumbersAsSpoken: as above, with all numbers as great as they may be.
func TestGreatNumbersAsSpoken(t *testing.T) {
	var from source = 6
	for range 100 {
		quantum := 10000 - from.below(9000)
		x, want := turnsOf(t, quantum), &spokenTurns{quantum: quantum, credits: map[int]int{}}
		for range 10 {
			users := from.users(10000, 1000000)
			blocks := from.below(101)
			slots(t, x, users, want.slot(users, blocks)...)
			for who := 0; who <= 17; who++ {
				credit(t, x, who, want.credits[who])
			}
		}
		if t.Failed() {
			t.Fatalf("quantum %d", quantum)
		}
	}
}
