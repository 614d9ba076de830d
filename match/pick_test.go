package match_test

import (
	"slices"
	"testing"

	"roamwave/api"
	"roamwave/match"
)

func TestBeginByHand(t *testing.T) {
	for _, x := range []struct{ n, version, want int }{
		{10, 0, 0}, {10, 1, 2}, {10, 2, 5}, {10, 3, 7},
		{1, 0, 0}, {1, 3, 0}, {2, 1, 0}, {2, 2, 1}, {2, 3, 1}, {3, 3, 2}, {4, 3, 3}, {5, 3, 3},
		{4096, 0, 0}, {4096, 1, 1024}, {4096, 3, 3072}, {4095, 3, 3071},
	} {
		if got, err := match.Begin(x.n, x.version); got != x.want || err != api.OK {
			t.Errorf("Begin(%d, %d): %d, %v; want %d", x.n, x.version, got, err, x.want)
		}
	}
}

func TestBeginOfAll(t *testing.T) {
	for n := 1; n <= api.MaxBits; n++ {
		for version := range 4 {
			got, err := match.Begin(n, version)
			if err != api.OK || got != spokenBegin(n, version) {
				t.Fatalf("Begin(%d, %d): %d, %v", n, version, got, err)
			}
		}
	}
}

func TestBeginOfWrong(t *testing.T) {
	for _, n := range wrongSizes {
		for _, version := range []int{0, 1, 3, 4, -1} {
			if got, err := match.Begin(n, version); got != 0 || err != api.ErrArg {
				t.Errorf("Begin(%d, %d): %d, %v", n, version, got, err)
			}
		}
	}
	for _, version := range wrongVersions {
		for _, n := range []int{0, 1, 10, api.MaxBits} {
			if got, err := match.Begin(n, version); got != 0 || err != api.ErrArg {
				t.Errorf("Begin(%d, %d): %d, %v", n, version, got, err)
			}
		}
	}
}

func TestPickByHand(t *testing.T) {
	for _, x := range []struct {
		coded          string
		version, count int
		want           string
	}{
		{"1000000001", 0, 12, "1000001000 10"},
		{"1000000001", 3, 7, "000 1000"},
		{"0001000000", 3, 3, "010"},
		{"0100000000", 2, 5, "10000"},
		{"1000000010", 0, 4, "1100"},
		{"011", 0, 9, "011 011 011"},
		{"001", 0, 4, "010 0"},
		{"001", 2, 4, "10 01"},
		{"10", 3, 5, "0 10 10"},
		{"1", 3, 4, "1111"},
		{"1111", 1, 0, ""},
	} {
		got, err := match.Pick(list(x.coded), x.version, x.count)
		if err != api.OK || !slices.Equal(got, list(x.want)) {
			t.Errorf("Pick(%s, %d, %d): %s, %v; want %s", x.coded, x.version, x.count, text(got), err, x.want)
		}
	}
}

// TestPickGoesRound: step by step, from nothing to far beyond the turn.
func TestPickGoesRound(t *testing.T) {
	s := source(1)
	for _, n := range lengths {
		coded := s.bits(n)
		for version := range 4 {
			for _, count := range []int{0, 1, n - 1, n, min(n+1, api.MaxBits), s.below(api.MaxBits), api.MaxBits} {
				want := []byte{}
				for _, place := range walk(n, version, count) {
					want = append(want, coded[place])
				}
				got, err := match.Pick(coded, version, count)
				if err != api.OK || !slices.Equal(got, want) {
					t.Errorf("Pick of %d bits, version %d, count %d: %s, %v; want %s", n, version, count, text(got), err, text(want))
				}
			}
		}
	}
}

// TestPickTellsTheTurn: a single 1 stands in the Pick where Order and Begin say.
func TestPickTellsTheTurn(t *testing.T) {
	for _, n := range []int{1, 6, 10, 40, 75} {
		order, _ := match.Order(n)
		for version := range 4 {
			begin, _ := match.Begin(n, version)
			for place := range n {
				got, err := match.Pick(withByte(n, place, 1), version, 2*n)
				for i, x := range got {
					if is := order[(begin+i)%n] == place; is != (x == 1) || err != api.OK {
						t.Fatalf("of %d bits, version %d: place %d: %s, %v", n, version, place, text(got), err)
					}
				}
			}
		}
	}
}

// pickIs fails unless a Pick tells an error, and nothing beside it.
func pickIs(t *testing.T, what string, coded []byte, version, count int, want api.Errno) {
	t.Helper()
	if got, err := match.Pick(coded, version, count); got != nil || err != want {
		t.Errorf("%s: Pick of %d, version %d, count %d: %d bits, %v; want %v", what, len(coded), version, count, len(got), err, want)
	}
}

func TestPickOfWrong(t *testing.T) {
	pickIs(t, "no list", nil, 0, 1, api.ErrArg)
	pickIs(t, "no list, and nothing to pick", nil, 0, 0, api.ErrArg)
	pickIs(t, "no bits", []byte{}, 3, 1, api.ErrArg)
	for _, x := range []byte{2, 3, 48, 128, 255} {
		pickIs(t, "no bit first", withByte(20, 0, x), 0, 20, api.ErrArg)
		pickIs(t, "no bit last", withByte(20, 19, x), 0, 0, api.ErrArg)
	}
	for _, version := range wrongVersions {
		pickIs(t, "no version", list("101"), version, 3, api.ErrArg)
		pickIs(t, "no version, nothing to pick", list("101"), version, 0, api.ErrArg)
		pickIs(t, "no bits, no version", nil, version, 3, api.ErrArg)
	}
	for _, count := range wrongNumbers {
		pickIs(t, "no count", list("101"), 0, count, api.ErrArg)
		pickIs(t, "no bits, no count", nil, 0, count, api.ErrArg)
	}
}

// TestPickTellsBitsFirst: the errors of bits stand ahead of all others, and among them that of a wrong byte.
func TestPickTellsBitsFirst(t *testing.T) {
	much := make([]byte, api.MaxBits+1)
	pickIs(t, "too many", much, 0, 1, api.ErrLarge)
	pickIs(t, "too many, no version", much, 4, 1, api.ErrLarge)
	pickIs(t, "too many, no count", much, 0, -1, api.ErrLarge)
	pickIs(t, "far too many", make([]byte, 1<<20), -1, api.MaxBits+1, api.ErrLarge)
	pickIs(t, "too many, no bit", withByte(api.MaxBits+1, api.MaxBits, 2), 0, 1, api.ErrArg)
}
