package bits_test

import (
	"math"
	"testing"

	"roamwave/api"
	"roamwave/bits"
)

var seeds = []int{0, 1, 2, 5, 12345, 1 << 16, 1<<30 - 1, 1 << 30, math.MaxInt32 - 1, math.MaxInt32}

// spelt is noise as the document spells it: both rows, whole, from their beginning on.
func spelt(seed, n int) []byte {
	x, y := make([]byte, 1600+n+31), make([]byte, 1600+n+31)
	x[0] = 1
	for i := range 31 {
		y[i] = byte(seed >> i & 1)
	}
	for k := 31; k < len(x); k++ {
		x[k] = (x[k-28] + x[k-31]) % 2
		y[k] = (y[k-28] + y[k-29] + y[k-30] + y[k-31]) % 2
	}
	return added(x[1600:1600+n], y[1600:1600+n])
}

func TestNoiseTold(t *testing.T) {
	for _, row := range []struct {
		seed int
		want string
	}{
		{0, "0000001000011010000100100111101000100101"},
		{1, "0000001010000011000000110111010000101011"},
		{5, "1100001001110000110111101011111010100001"},
		{1 << 30, "0000001100101000001100000110011000111001"},
		{math.MaxInt32, "1111110100001011111100111000111000101110"},
	} {
		got, err := bits.Noise(row.seed, len(row.want))
		same(t, "told", got, err, row.want)
	}
}

func TestNoiseSpelt(t *testing.T) {
	for _, seed := range seeds {
		for _, n := range []int{0, 1, 2, 30, 31, 32, 33, 500, api.MaxBits - 1, api.MaxBits} {
			got, err := bits.Noise(seed, n)
			same(t, "spelt", got, err, text(spelt(seed, n)))
		}
	}
	for place := range 31 {
		got, err := bits.Noise(1<<place, 100)
		same(t, "a seed of one bit", got, err, text(spelt(1<<place, 100)))
	}
}

func TestNoiseWrong(t *testing.T) {
	wrongSeeds := []int{math.MinInt, -1 << 31, -1, 1 << 31, 1 << 32, math.MaxInt}
	wrongCounts := []int{math.MinInt, -1, api.MaxBits + 1, 1 << 32, math.MaxInt}
	for _, seed := range wrongSeeds {
		for _, n := range append([]int{0, 1, api.MaxBits}, wrongCounts...) {
			got, err := bits.Noise(seed, n)
			refused(t, "a wrong seed", got, err, api.ErrArg)
		}
	}
	for _, n := range wrongCounts {
		for _, seed := range seeds {
			got, err := bits.Noise(seed, n)
			refused(t, "a wrong count", got, err, api.ErrArg)
		}
	}
}

func TestCoverAndBack(t *testing.T) {
	for _, seed := range seeds {
		for _, n := range []int{0, 1, 10, 100, api.MaxBits - 1, api.MaxBits} {
			b := mixed(uint64(n), n)
			covered, err := bits.Cover(b, seed)
			same(t, "covered", covered, err, text(added(b, spelt(seed, n))))
			back, err := bits.Cover(covered, seed)
			same(t, "covered twice", back, err, text(b))
		}
	}
}

func TestCoverWrong(t *testing.T) {
	for what, row := range wrongBits() {
		for _, seed := range []int{0, 5, -1, 1 << 31, math.MinInt, math.MaxInt} {
			got, err := bits.Cover(row.b, seed)
			refused(t, what, got, err, row.want)
		}
	}
	for _, seed := range []int{-1, 1 << 31, 1 << 32, math.MinInt, math.MaxInt} {
		for _, n := range []int{0, 1, api.MaxBits} {
			got, err := bits.Cover(make([]byte, n), seed)
			refused(t, "a wrong seed", got, err, api.ErrArg)
		}
	}
}
