package bits_test

import (
	"math"
	"testing"

	"roamwave/api"
)

// extremes of numbers, for what no call may trip over.
var extremes = []int{math.MinInt, math.MinInt32, -4096, -1, math.MaxInt32, math.MaxUint32, math.MaxInt - 7, math.MaxInt}

// list of bits of a text of the digits 0 and 1.
func list(s string) []byte {
	b := make([]byte, len(s))
	for i := range b {
		b[i] = s[i] - '0'
	}
	return b
}

// text is for telling bits, and for holding them against each other: nothing and nil are the same.
func text(b []byte) string {
	t := make([]byte, len(b))
	for i, x := range b {
		t[i] = x + '0'
	}
	return string(t)
}

// mixed bits, always the same ones of a seed.
func mixed(seed uint64, n int) []byte {
	b := make([]byte, n)
	for i := range b {
		seed = seed*6364136223846793005 + 1442695040888963407
		b[i] = byte(seed >> 63)
	}
	return b
}

// withByte is n bits 0, but for one byte at a place.
func withByte(n, place int, x byte) []byte {
	b := make([]byte, n)
	b[place] = x
	return b
}

// added place by place.
func added(a, b []byte) []byte {
	c := make([]byte, len(a))
	for i := range c {
		c[i] = (a[i] + b[i]) % 2
	}
	return c
}

// wrongBits are lists that are no bits, and what is told of them.
func wrongBits() map[string]struct {
	b    []byte
	want api.Errno
} {
	type row = struct {
		b    []byte
		want api.Errno
	}
	return map[string]row{
		"2":                      {[]byte{2}, api.ErrArg},
		"255 behind":             {[]byte{0, 1, 255}, api.ErrArg},
		"a digit":                {[]byte("1"), api.ErrArg},
		"128 at the last place":  {withByte(api.MaxBits, api.MaxBits-1, 128), api.ErrArg},
		"one too many":           {make([]byte, api.MaxBits+1), api.ErrLarge},
		"far too many":           {make([]byte, 100000), api.ErrLarge},
		"too many, the first 2":  {withByte(api.MaxBits+1, 0, 2), api.ErrArg},
		"too many, the last 2":   {withByte(api.MaxBits+1, api.MaxBits, 2), api.ErrArg},
		"far too many, a late 3": {withByte(100000, 99999, 3), api.ErrArg},
	}
}

// same fails unless an answer is the bits and the error that are wanted.
func same(t *testing.T, what string, got []byte, err api.Errno, want string) {
	t.Helper()
	if err != api.OK || text(got) != want {
		t.Errorf("%s: %s, %v; want %s", what, text(got), err, want)
	}
}

// refused fails unless an answer is the error alone.
func refused(t *testing.T, what string, got []byte, err, want api.Errno) {
	t.Helper()
	if err != want || got != nil {
		t.Errorf("%s: %v, %v; want no list, %v", what, got, err, want)
	}
}
