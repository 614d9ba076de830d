package polar_test

import (
	"slices"
	"testing"

	"roamwave/api"
	"roamwave/polar"
)

// room is a copy of a list with much room behind it, all of which holds x.
func room[T any](list []T, x T) []T {
	all := slices.Repeat([]T{x}, len(list)+2000)
	copy(all, list)
	return all
}

// spoil all of a list, the room behind it too.
func spoil[T ~byte | ~int](list []T) {
	list = list[:cap(list)]
	for i := range list {
		list[i] = 7
	}
}

func TestHandedInStays(t *testing.T) {
	s := source(9)
	for _, n := range sizes {
		b := room(s.bits(n), 9)
		soft := room(s.soft(n, 50), 9)
		wasBits, wasSoft := slices.Clone(b), slices.Clone(soft)
		turned, _ := polar.Turn(b[:n])
		coded, _ := polar.Encode(b[:n/2], n)
		found, err := polar.Decode(soft[:n], n)
		spoil(turned)
		spoil(coded)
		spoil(found)
		if err != api.OK || !slices.Equal(b, wasBits) || !slices.Equal(soft, wasSoft) {
			t.Errorf("%d bits: what was handed in has changed, or %v", n, err)
		}
	}
}

// sameAgain fails if one answer of a call can be seen in another.
func sameAgain[T ~byte | ~int](t *testing.T, name string, call func() []T) {
	t.Helper()
	first := call()
	want := slices.Clone(first)
	spoil(call())
	if !slices.Equal(first, want) || !slices.Equal(call(), want) {
		t.Errorf("%s: answers share memory", name)
	}
}

func TestAnswersAreNew(t *testing.T) {
	s := source(10)
	b, soft := s.bits(64), s.soft(64, 50)
	sameAgain(t, "Turn", func() []byte { got, _ := polar.Turn(b); return got })
	sameAgain(t, "Places", func() []int { got, _ := polar.Places(64, 30); return got })
	sameAgain(t, "Encode", func() []byte { got, _ := polar.Encode(b[:20], 64); return got })
	sameAgain(t, "Decode", func() []byte { got, _ := polar.Decode(soft, 30); return got })
}

// TestNothingIsKept: what was asked before makes no difference.
func TestNothingIsKept(t *testing.T) {
	s := source(11)
	soft := s.soft(64, 3)
	want, _ := polar.Decode(soft, 40)
	for _, n := range sizes {
		polar.Decode(s.soft(n, api.MaxSoft), n)
		polar.Encode(s.bits(n), n)
		polar.Places(n, n)
		got, err := polar.Decode(soft, 40)
		sameBits(t, "Decode again", got, err, want)
	}
}
