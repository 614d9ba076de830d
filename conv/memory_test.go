package conv_test

import (
	"bytes"
	"slices"
	"testing"

	"roamwave/api"
	"roamwave/conv"
)

// room is a copy of a list with much room behind it, all of which holds x.
func room[T any](list []T, x T) []T {
	all := slices.Repeat([]T{x}, len(list)+2000)
	copy(all, list)
	return all
}

// spoil all of a list, the room behind it too.
func spoil(b []byte) {
	b = b[:cap(b)]
	for i := range b {
		b[i] = 7
	}
}

func TestHandedInStays(t *testing.T) {
	s := source(9)
	for _, n := range []int{0, 1, 8, 33, 400} {
		b := room(s.bits(n), 9)
		soft := room(s.soft(3*(n+6), 50), 9)
		wasBits, wasSoft := slices.Clone(b), slices.Clone(soft)
		coded, _ := conv.Encode(b[:n])
		conv.Score(b[:n], soft[:3*(n+6)])
		found, _, err := conv.Decode(soft[:3*(n+6)])
		spoil(coded)
		spoil(found)
		if err != api.OK || !bytes.Equal(b, wasBits) || !slices.Equal(soft, wasSoft) {
			t.Errorf("%d bits: what was handed in has changed, or %v", n, err)
		}
	}
}

func TestAnswersAreNew(t *testing.T) {
	s := source(10)
	b, soft := s.bits(40), s.soft(3*46, 50)
	calls := map[string]func() []byte{
		"Encode": func() []byte { got, _ := conv.Encode(b); return got },
		"Decode": func() []byte { got, _, _ := conv.Decode(soft); return got },
	}
	for name, call := range calls {
		first := call()
		want := bytes.Clone(first)
		spoil(call())
		if !bytes.Equal(first, want) || !bytes.Equal(call(), want) {
			t.Errorf("%s: answers share memory", name)
		}
	}
}

// TestNothingIsKept: what was asked before makes no difference.
func TestNothingIsKept(t *testing.T) {
	s := source(11)
	soft := s.soft(3*106, 3)
	want, score, _ := conv.Decode(soft)
	for _, n := range []int{0, 5, 400} {
		conv.Decode(s.soft(3*(n+6), api.MaxSoft))
		conv.Encode(s.bits(n))
		got, again, err := conv.Decode(soft)
		sameBits(t, "Decode again", got, err, want)
		if again != score {
			t.Errorf("Decode again: scores %d, was %d", again, score)
		}
	}
}
