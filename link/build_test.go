package link_test

import (
	"slices"
	"strings"
	"testing"

	"roamwave/api"
	"roamwave/bits"
	"roamwave/link"
)

// TestBuildOfNothing: bits 0 have a sum 0 and are coded as 0, so the noise alone is sent, whatever the code and the version.
func TestBuildOfNothing(t *testing.T) {
	for _, x := range all() {
		noise := good[[]byte](t)(bits.Noise(x.Seed, x.Count))
		for version := range 4 {
			for _, data := range []string{"", strings.Repeat("\x00", x.bytes)} {
				for i, p := range build(t, data, x.Settings, version) {
					if p.I < 0 != (noise[i*x.Order] == 1) || p.Q < 0 != (noise[i*x.Order+1] == 1) {
						t.Fatalf("%+v: point %d is %v", x, i, p)
					}
				}
			}
		}
	}
}

// TestBuildByHand: a byte and its sum fill all 32 places of Halves, so each coded bit, and where its turn comes, can be said without the layers beneath.
func TestBuildByHand(t *testing.T) {
	s := api.Settings{Code: api.Halves, Size: 32, Order: 2, Seed: 0, Count: 32}
	noise := good[[]byte](t)(bits.Noise(0, 32))
	sealed := good[[]byte](t)(bits.Seal([]byte{0, 1, 0, 0, 0, 0, 0, 1}, api.Sum24))
	order := []int{0, 8, 16, 24, 4, 12, 20, 28, 2, 10, 18, 26, 6, 14, 22, 30, 1, 9, 17, 25, 5, 13, 21, 29, 3, 11, 19, 27, 7, 15, 23, 31}
	for version, begin := range []int{0, 8, 16, 24} {
		l := build(t, "A", s, version)
		for i := range 32 {
			// All places are open, so a coded bit is the sum of those at the places whose number has all bits of its own.
			place := order[(begin+i)%32]
			want := noise[i]
			for from, x := range sealed {
				if from&place == place {
					want ^= x
				}
			}
			got := l[i/2].I
			if i%2 == 1 {
				got = l[i/2].Q
			}
			if got != 1-2*int(want) {
				t.Errorf("version %d: bit %d is sent as %d, want a %d", version, i, got, want)
			}
		}
	}
}

// TestBuildGoesTheSteps: the points are those that the layers beneath make one behind the other.
func TestBuildGoesTheSteps(t *testing.T) {
	r := source(2)
	for _, x := range all() {
		for _, bytes := range []int{x.bytes, x.bytes / 2, 0} {
			data := r.data(bytes)
			for version := range 4 {
				got, want := build(t, data, x.Settings, version), spokenBuild(t, data, x.Settings, version)
				if !slices.Equal(got, want) {
					t.Errorf("Build(%q, %+v, %d): %v, want %v", data, x.Settings, version, got, want)
				}
			}
		}
	}
}

// buildIs fails unless a Build tells an error, and nothing beside it.
func buildIs(t *testing.T, what, data string, s api.Settings, version int, want api.Errno) {
	t.Helper()
	if l, err := link.Build(data, s, version); l != nil || err != want {
		t.Errorf("%s: Build(%d bytes, %+v, %d): %d points, %v; want %v", what, len(data), s, version, len(l), err, want)
	}
}

func TestBuildOfWrong(t *testing.T) {
	r := source(3)
	for _, x := range all() {
		for _, version := range wrongVersions {
			buildIs(t, "no version", r.data(x.bytes), x.Settings, version, api.ErrArg)
			buildIs(t, "no version, no data", "", x.Settings, version, api.ErrArg)
		}
		buildIs(t, "one byte too many", r.data(41), x.Settings, 0, api.ErrArg)
		buildIs(t, "far too many bytes", r.data(1<<20), x.Settings, 3, api.ErrArg)
	}
}

// TestBuildTellsCheckFirst: data that the settings are too small for, of no version.
func TestBuildTellsCheckFirst(t *testing.T) {
	s := api.Settings{Code: api.Halves, Size: 64, Order: 2, Count: 64}
	buildIs(t, "large", "sixsix", s, 0, api.ErrLarge)
	buildIs(t, "large, no version", "sixsix", s, 4, api.ErrLarge)
	buildIs(t, "large, no version", "sixsix", s, -1, api.ErrLarge)
	buildIs(t, "no version", "fives", s, 4, api.ErrArg)
}
