package conv_test

import (
	"slices"
	"testing"

	"roamwave/api"
)

// list of bits of a text of the digits 0 and 1; blanks are for the reader.
func list(s string) []byte {
	b := []byte{}
	for _, c := range s {
		if c != ' ' {
			b = append(b, byte(c-'0'))
		}
	}
	return b
}

// text is for telling bits, and for holding them against each other: nothing and nil are the same.
func text(b []byte) string {
	t := make([]byte, len(b))
	for i, x := range b {
		t[i] = x + '0'
	}
	return string(t)
}

// source of numbers that are mixed, but always the same.
type source uint64

func (s *source) below(n int) int {
	*s = *s*6364136223846793005 + 1442695040888963407
	return int(uint64(*s)>>33) % n
}

func (s *source) bits(n int) []byte {
	b := make([]byte, n)
	for i := range b {
		b[i] = byte(s.below(2))
	}
	return b
}

// soft numbers from -most to most.
func (s *source) soft(n, most int) []int {
	soft := make([]int, n)
	for i := range soft {
		soft[i] = s.below(2*most+1) - most
	}
	return soft
}

// withByte is n bits 0, but for one byte at a place.
func withByte(n, place int, x byte) []byte {
	b := make([]byte, n)
	b[place] = x
	return b
}

// withNumber is n numbers 0, but for one at a place.
func withNumber(n, place, x int) []int {
	soft := make([]int, n)
	soft[place] = x
	return soft
}

// spoken is the code as its chapter spells it: each bit's three sums of the seven bits a to g.
func spoken(b []byte) []byte {
	all := append(append(make([]byte, 6), b...), make([]byte, 6)...)
	var coded []byte
	for i := 6; i < len(all); i++ {
		a, b, c, d, e, f, g := all[i], all[i-1], all[i-2], all[i-3], all[i-4], all[i-5], all[i-6]
		coded = append(coded, (a+b+c+d+g)%2, (a+c+d+f+g)%2, (a+b+c+e+g)%2)
	}
	return coded
}

// scored is the score as its chapter spells it.
func scored(b []byte, soft []int) int {
	sum := 0
	for i, x := range spoken(b) {
		sum += soft[i] * (1 - 2*int(x))
	}
	return sum
}

// heard is what is heard of coded bits, each as sure as the numbers say.
func heard(coded []byte, sure func(i int) int) []int {
	soft := make([]int, len(coded))
	for i, x := range coded {
		soft[i] = sure(i) * (1 - 2*int(x))
	}
	return soft
}

// wrongBits are lists that Encode does not take, and what is told of them.
var wrongBits = map[string]struct {
	b    []byte
	want api.Errno
}{
	"2":                       {[]byte{2}, api.ErrArg},
	"255 behind":              {[]byte{0, 1, 255}, api.ErrArg},
	"128 at the last place":   {withByte(400, 399, 128), api.ErrArg},
	"one too many":            {make([]byte, 401), api.ErrLarge},
	"one too many, the last":  {withByte(401, 400, 1), api.ErrLarge},
	"one too many, it is 2":   {withByte(401, 400, 2), api.ErrArg},
	"all that bits may be":    {make([]byte, api.MaxBits), api.ErrLarge},
	"as many, the last 3":     {withByte(api.MaxBits, api.MaxBits-1, 3), api.ErrArg},
	"more than bits may be":   {make([]byte, api.MaxBits+1), api.ErrLarge},
	"more than that, a 2":     {withByte(api.MaxBits+1, api.MaxBits, 2), api.ErrArg},
	"far too many, a late 17": {withByte(100000, 99999, 17), api.ErrArg},
}

// sameBits fails unless an answer is the bits that are wanted.
func sameBits(t *testing.T, what string, got []byte, err api.Errno, want []byte) {
	t.Helper()
	if err != api.OK || !slices.Equal(got, want) {
		t.Errorf("%s: %s, %v; want %s", what, text(got), err, text(want))
	}
}
