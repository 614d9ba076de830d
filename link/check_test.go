package link_test

import (
	"math"
	"slices"
	"strings"
	"testing"

	"roamwave/api"
	"roamwave/link"
)

// checkIs fails unless Check, New and Build all tell this of settings for so many bytes, and nothing beside an error.
func checkIs(t *testing.T, what string, s api.Settings, bytes int, want api.Errno) {
	t.Helper()
	if err := link.Check(s, bytes); err != want {
		t.Errorf("%s: Check(%+v, %d): %v, want %v", what, s, bytes, err, want)
	}
	if e, err := link.New(s, bytes); err != want || (e == nil) != (want != api.OK) {
		t.Errorf("%s: New(%+v, %d): %v, %v; want %v", what, s, bytes, e, err, want)
	}
	if bytes < 0 || bytes > 5000 {
		return
	}
	if l, err := link.Build(strings.Repeat("x", bytes), s, 0); err != want || (l == nil) != (want != api.OK) {
		t.Errorf("%s: Build(%d bytes, %+v): %d points, %v; want %v", what, bytes, s, len(l), err, want)
	}
}

func TestCheckOfFit(t *testing.T) {
	for _, x := range all() {
		checkIs(t, "fit", x.Settings, x.bytes, api.OK)
	}
}

// TestCheckAtEdges: the least and the most of each number that may be.
func TestCheckAtEdges(t *testing.T) {
	for bytes := range 41 {
		checkIs(t, "Memory", api.Settings{Order: 2, Count: 2}, bytes, api.OK)
		checkIs(t, "Halves", api.Settings{Code: api.Halves, Size: 512, Order: 2, Count: 2}, bytes, api.OK)
	}
	for order, most := range map[int]int{2: 4096, 4: 4096, 6: 4092} {
		checkIs(t, "one point", api.Settings{Order: order, Count: order}, 3, api.OK)
		checkIs(t, "two points", api.Settings{Order: order, Count: 2 * order}, 3, api.OK)
		checkIs(t, "most points", api.Settings{Order: order, Count: most}, 3, api.OK)
		checkIs(t, "too many points", api.Settings{Order: order, Count: most + order}, 3, api.ErrArg)
	}
	checkIs(t, "last seed", api.Settings{Order: 2, Seed: math.MaxInt32, Count: 2}, 3, api.OK)
}

func TestCheckOfWrong(t *testing.T) {
	for _, x := range all() {
		for _, bytes := range append([]int{41, 42, 64, 512, 513}, wrongNumbers...) {
			checkIs(t, "bytes", x.Settings, bytes, api.ErrArg)
		}
		for _, code := range append([]int{2, 3}, wrongNumbers...) {
			s := x.Settings
			s.Code = code
			checkIs(t, "code", s, x.bytes, api.ErrArg)
		}
		for _, order := range append([]int{0, 1, 3, 5, 7, 8, 10, 12}, wrongNumbers...) {
			s := x.Settings
			s.Order = order
			checkIs(t, "order", s, x.bytes, api.ErrArg)
		}
		for _, seed := range wrongNumbers {
			s := x.Settings
			s.Seed = seed
			checkIs(t, "seed", s, x.bytes, api.ErrArg)
		}
		for _, count := range append([]int{0, 1, 3, x.Count + 1, x.Count - 1, 4097, 4098, 4100, 4104, 8192}, wrongNumbers...) {
			s := x.Settings
			s.Count = count
			checkIs(t, "count", s, x.bytes, api.ErrArg)
		}
	}
}

func TestCheckOfSize(t *testing.T) {
	for _, size := range append([]int{1, 2, 3, 32, 64, 512, 1024}, wrongNumbers...) {
		checkIs(t, "a size of Memory", api.Settings{Size: size, Order: 2, Count: 2}, 1, api.ErrArg)
	}
	for _, size := range append([]int{0, 3, 5, 6, 31, 33, 48, 63, 65, 96, 500, 511, 513, 600, 1024, 4096}, wrongNumbers...) {
		checkIs(t, "no size of Halves", api.Settings{Code: api.Halves, Size: size, Order: 2, Count: 2}, 1, api.ErrArg)
	}
}

// TestCheckOfLarge: of each size the most bytes that it has room for, with their sum, and one more.
func TestCheckOfLarge(t *testing.T) {
	for size, most := range map[int]int{1: -1, 2: -1, 4: -1, 8: -1, 16: -1, 32: 1, 64: 5, 128: 13, 256: 29, 512: 40} {
		s := api.Settings{Code: api.Halves, Size: size, Order: 4, Count: 4}
		for bytes := range 41 {
			want := api.OK
			if bytes > most {
				want = api.ErrLarge
			}
			checkIs(t, "large", s, bytes, want)
		}
		checkIs(t, "beyond all", s, 41, api.ErrArg)
		checkIs(t, "below all", s, -1, api.ErrArg)
	}
}

// TestCheckTellsArgFirst: where the sealed bits are too many as well.
func TestCheckTellsArgFirst(t *testing.T) {
	large := api.Settings{Code: api.Halves, Size: 32, Order: 6, Seed: 1, Count: 60}
	checkIs(t, "large alone", large, 2, api.ErrLarge)
	for what, change := range map[string]func(s *api.Settings){
		"order":             func(s *api.Settings) { s.Order = 3 },
		"seed below":        func(s *api.Settings) { s.Seed = -1 },
		"seed above":        func(s *api.Settings) { s.Seed = 1 << 31 },
		"count":             func(s *api.Settings) { s.Count = 62 },
		"count 0":           func(s *api.Settings) { s.Count = 0 },
		"count above":       func(s *api.Settings) { s.Count = 4098 },
		"size":              func(s *api.Settings) { s.Size = 33 },
		"code":              func(s *api.Settings) { s.Code = 2 },
		"size but memory's": func(s *api.Settings) { s.Code = api.Memory },
	} {
		s := large
		change(&s)
		checkIs(t, what, s, 2, api.ErrArg)
	}
}

// spokenCheck says one after the other what the chapter says.
func spokenCheck(s api.Settings, bytes int) api.Errno {
	sizes := []int{0}
	if s.Code == api.Halves {
		sizes = []int{1, 2, 4, 8, 16, 32, 64, 128, 256, 512}
	}
	fit := bytes >= 0 && bytes <= 40 && (s.Code == api.Memory || s.Code == api.Halves) &&
		slices.Contains([]int{2, 4, 6}, s.Order) && s.Seed >= 0 && int64(s.Seed) < 1<<31 &&
		s.Count >= s.Order && s.Count <= 4096 && s.Count/s.Order*s.Order == s.Count && slices.Contains(sizes, s.Size)
	if !fit {
		return api.ErrArg
	}
	if s.Code == api.Halves && 8*bytes+24 > s.Size {
		return api.ErrLarge
	}
	return api.OK
}

// TestCheckOfMixed: numbers of all kinds, near what may be, held against the chapter's words.
func TestCheckOfMixed(t *testing.T) {
	r := source(1)
	of := func(l ...int) int { return l[r.below(len(l))] }
	told := map[api.Errno]int{}
	for range 30000 {
		s := api.Settings{
			Code:  of(0, 1, 1, 0, 1, 2, -1),
			Size:  of(0, 0, 0, 1, 16, 32, 33, 64, 128, 256, 512, 1024),
			Order: of(2, 4, 6, 2, 4, 6, 0, 3, -2),
			Seed:  of(0, 1, math.MaxInt32, 1<<31, -1, 5, 77, 12345),
			Count: of(0, 1, 2, 3, 4, 5, 6, 12, 24, 48, 4092, 4094, 4096, 4098, -6, r.below(4200)),
		}
		bytes := of(-1, 0, 1, 2, 5, 6, 13, 14, 29, 30, 39, 40, 41)
		want := spokenCheck(s, bytes)
		told[want]++
		if err := link.Check(s, bytes); err != want {
			t.Fatalf("Check(%+v, %d): %v, want %v", s, bytes, err, want)
		}
	}
	if told[api.OK] < 500 || told[api.ErrLarge] < 500 || told[api.ErrArg] < 500 {
		t.Errorf("too few of some kind: %v", told)
	}
}
