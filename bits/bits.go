// Package bits: bits, sums, noise: see doc/01-bits.md.
package bits

import (
	"math"

	"roamwave/api"
)

// noiseLead is how many steps of the noise are left out: so many that seeds which differ little don't sound alike.
const noiseLead = 1600

// divisor of a sum: rest is the polynomial without its highest place, x^width.
type divisor struct {
	width int
	rest  uint32
}

// Check answers the errors of bits. Other layers are handed bits too, and must tell the same.
func Check(b []byte) api.Errno {
	for _, x := range b {
		if x > 1 {
			return api.ErrArg
		}
	}
	if len(b) > api.MaxBits {
		return api.ErrLarge
	}
	return api.OK
}

// Pack: P3.
func Pack(b []byte) (string, api.Errno) {
	if err := Check(b); err != api.OK {
		return "", err
	}
	packed := make([]byte, (len(b)+7)/8)
	for i, x := range b {
		packed[i/8] |= x << (7 - i%8)
	}
	return string(packed), api.OK
}

// Unpack: P3.
func Unpack(s string, n int) ([]byte, api.Errno) {
	// In 64 bits, as eight times a length may be too much for an int.
	if n < 0 || int64(n) > 8*int64(len(s)) {
		return nil, api.ErrArg
	}
	if n > api.MaxBits {
		return nil, api.ErrLarge
	}
	b := make([]byte, n)
	for i := range b {
		b[i] = s[i/8] >> (7 - i%8) & 1
	}
	return b, api.OK
}

// divisorOf a kind of sum.
func divisorOf(kind int) (divisor, api.Errno) {
	switch kind {
	case api.Sum6:
		return divisor{6, 1<<5 | 1}, api.OK
	case api.Sum11:
		return divisor{11, 1<<10 | 1<<9 | 1<<5 | 1}, api.OK
	case api.Sum16:
		return divisor{16, 1<<12 | 1<<5 | 1}, api.OK
	case api.Sum24:
		return divisor{24, 1<<23 | 1<<18 | 1<<17 | 1<<14 | 1<<11 | 1<<10 |
			1<<7 | 1<<6 | 1<<5 | 1<<4 | 1<<3 | 1<<1 | 1}, api.OK
	}
	return divisor{}, api.ErrArg
}

// checkSum answers the divisor, or the first error, of bits and a kind.
func checkSum(b []byte, kind int) (divisor, api.Errno) {
	if err := Check(b); err != api.OK {
		return divisor{}, err
	}
	return divisorOf(kind)
}

// sum is what is left of the bits times x^width. Each bit comes in at the place x^width, so that no zeros need be put behind the bits.
func (d divisor) sum(b []byte) []byte {
	var left uint32
	for _, x := range b {
		left = left<<1 ^ uint32(x)<<d.width
		if left>>d.width&1 == 1 {
			left ^= 1<<d.width | d.rest
		}
	}
	sum := make([]byte, d.width)
	for i := range sum {
		sum[i] = byte(left >> (d.width - 1 - i) & 1)
	}
	return sum
}

// Sum: P4.
func Sum(b []byte, kind int) ([]byte, api.Errno) {
	d, err := checkSum(b, kind)
	if err != api.OK {
		return nil, err
	}
	return d.sum(b), api.OK
}

// Seal: P4.
func Seal(b []byte, kind int) ([]byte, api.Errno) {
	d, err := checkSum(b, kind)
	if err != api.OK {
		return nil, err
	}
	if len(b)+d.width > api.MaxBits {
		return nil, api.ErrLarge
	}
	sealed := make([]byte, len(b)+d.width)
	copy(sealed, b)
	copy(sealed[len(b):], d.sum(b))
	return sealed, api.OK
}

// Open: P4.
func Open(b []byte, kind int) ([]byte, bool, api.Errno) {
	d, err := checkSum(b, kind)
	if err != api.OK {
		return nil, false, err
	}
	n := len(b) - d.width
	if n < 0 || string(d.sum(b[:n])) != string(b[n:]) {
		return nil, false, api.OK
	}
	opened := make([]byte, n)
	copy(opened, b)
	return opened, true, api.OK
}

// step moves both registers on by one place: the lowest bit of each is the place itself, the 30 above it are those that follow.
func step(x, y uint32) (uint32, uint32) {
	nextX := (x>>3 ^ x) & 1
	nextY := (y>>3 ^ y>>2 ^ y>>1 ^ y) & 1
	return x>>1 | nextX<<30, y>>1 | nextY<<30
}

// Noise: P5.
func Noise(seed, n int) ([]byte, api.Errno) {
	if seed < 0 || seed > math.MaxInt32 || n < 0 || n > api.MaxBits {
		return nil, api.ErrArg
	}
	x, y := uint32(1), uint32(seed)
	for range noiseLead {
		x, y = step(x, y)
	}
	noise := make([]byte, n)
	for i := range noise {
		noise[i] = byte((x ^ y) & 1)
		x, y = step(x, y)
	}
	return noise, api.OK
}

// Cover: P5.
func Cover(b []byte, seed int) ([]byte, api.Errno) {
	if err := Check(b); err != api.OK {
		return nil, err
	}
	covered, err := Noise(seed, len(b))
	if err != api.OK {
		return nil, err
	}
	for i, x := range b {
		covered[i] ^= x
	}
	return covered, api.OK
}
