package turns_test

import (
	"slices"
	"testing"

	"roamwave/api"
)

// fewest blocks that all users' Bytes need.
func fewest(users []api.User) int {
	n := 0
	for _, u := range users {
		n += (u.Bytes + u.Fits - 1) / u.Fits
	}
	return n
}

// TestNoBlockIsKeptBack: as many blocks are somebody's as are there and are needed, each user has no more than it needs, and nobody's come last.
func TestNoBlockIsKeptBack(t *testing.T) {
	var from source = 7
	for turn := range 300 {
		most := []int{2, 20, 200, 10000}[turn%4]
		x := turnsOf(t, 1+most/10+from.below(most/2+1))
		for range 10 {
			users, blocks := from.users(most, 10*most), from.below(101)
			l := slot(t, x, users, blocks)
			given := min(blocks, fewest(users))
			if i := slices.Index(l, 0); (i < 0 && given != blocks) || (i >= 0 && i != given) {
				t.Fatalf("%v, %d blocks: %v, want %d of them given", users, blocks, l, given)
			}
			for _, u := range users {
				n := 0
				for _, who := range l[:given] {
					if who == u.Who {
						n++
					}
				}
				if n > fewest([]api.User{u}) {
					t.Fatalf("%v, %d blocks: %v, too many of them %d's", users, blocks, l, u.Who)
				}
			}
			if slices.Max(append(l[given:], 0)) != 0 {
				t.Fatalf("%v, %d blocks: %v", users, blocks, l)
			}
		}
	}
}

// TestCreditIsBounded: whatever comes, it is at least 0, and less than quantum and 10000 together.
func TestCreditIsBounded(t *testing.T) {
	var from source = 8
	for _, quantum := range []int{1, 50, 9999, 10000} {
		x := turnsOf(t, quantum)
		for range 200 {
			most := []int{1, 100, 10000}[from.below(3)]
			slot(t, x, from.users(most, 1000000), from.below(4))
			for who := 1; who <= 16; who++ {
				if n := x.Credit(who); n < 0 || n >= quantum+10000 {
					t.Fatalf("quantum %d: Credit(%d): %d", quantum, who, n)
				}
			}
		}
	}
}

// fair fails unless any two who wait all the time have been given as many bytes, but for twice quantum and the greater Fits.
func fair(t *testing.T, quantum int, waiters []api.User, bytes map[int]int) {
	t.Helper()
	for _, one := range waiters {
		for _, other := range waiters {
			if bytes[one.Who]-bytes[other.Who] > 2*quantum+max(one.Fits, other.Fits) {
				t.Fatalf("quantum %d: %v has been given %d, %v %d", quantum, one, bytes[one.Who], other, bytes[other.Who])
			}
		}
	}
}

// TestFair: of users who wait all the time, while others come and go, none gets far ahead of another, at no block.
func TestFair(t *testing.T) {
	var from source = 9
	for turn := range 200 {
		most := []int{1, 5, 50, 500}[turn%4]
		quantum := 1 + from.below(2*most)
		x := turnsOf(t, quantum)
		var waiters []api.User
		for _, u := range from.users(most, 1) {
			waiters = append(waiters, api.User{Who: u.Who, Bytes: 1000000, Fits: u.Fits})
		}
		bytes := map[int]int{}
		for range 40 {
			users := slices.Clone(waiters)
			for _, u := range from.users(most, 3*most) {
				if stands(users, u.Who) == nil {
					users = append(users, u)
				}
			}
			slices.SortFunc(users, func(a, b api.User) int { return a.Who - b.Who })
			for _, who := range slot(t, x, users, from.below(20)) {
				if u := stands(waiters, who); u != nil {
					bytes[who] += u.Fits
				}
				fair(t, quantum, waiters, bytes)
			}
		}
	}
}

// TestATurnComesToAll: who needs most, and gains least, is given a block all the same, beside fifteen who need little.
func TestATurnComesToAll(t *testing.T) {
	x := turnsOf(t, 1)
	var users []api.User
	for who := 1; who <= 16; who++ {
		users = append(users, api.User{Who: who, Bytes: 1000000, Fits: 1})
	}
	users[8].Fits = 1000
	blocks := 0
	for range 200 {
		if i := slices.Index(slot(t, x, users, 100), 9); i >= 0 {
			blocks += i
			break
		}
		blocks += 100
	}
	// The ninth gains 1 in each round, in which the others have a block each; the block is its own at the thousandth visit.
	if blocks != 999*15+8 {
		t.Errorf("%d blocks ahead of it", blocks)
	}
}
