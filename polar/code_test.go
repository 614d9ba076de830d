package polar_test

import (
	"math"
	"slices"
	"testing"

	"roamwave/api"
	"roamwave/polar"
)

func TestEncodeByHand(t *testing.T) {
	for _, x := range []struct {
		b    string
		n    int
		want string
	}{
		{"", 1, "0"}, {"0", 1, "0"}, {"1", 1, "1"},
		{"", 8, "00000000"},
		{"1", 2, "11"}, {"1", 4, "1111"}, {"1", 8, "11111111"},
		{"10", 4, "1010"}, {"01", 4, "1111"}, {"100", 4, "1100"},
		{"1000", 8, "11110000"}, {"0100", 8, "11001100"}, {"0010", 8, "10101010"}, {"0001", 8, "11111111"},
		{"1011", 4, "1101"},
	} {
		got, err := polar.Encode(list(x.b), x.n)
		sameBits(t, "Encode of "+x.b, got, err, list(x.want))
	}
}

func TestEncodeAsSpelt(t *testing.T) {
	s := source(3)
	for _, n := range sizes {
		step := 1 + n/17
		for k := 0; k <= n; k += step {
			b := s.bits(k)
			got, err := polar.Encode(b, n)
			sameBits(t, "Encode", got, err, spokenCode(b, n))
		}
		all := s.bits(n)
		got, err := polar.Encode(all, n)
		sameBits(t, "Encode of as many", got, err, spokenTurn(all))
	}
}

func TestEncodeRefuses(t *testing.T) {
	refused := func(b []byte, n int, want api.Errno) {
		t.Helper()
		if got, err := polar.Encode(b, n); err != want || got != nil {
			t.Errorf("%d bits to %d: %v, %v; want %v alone", len(b), n, got, err, want)
		}
	}
	for _, n := range wrongSizes {
		refused(nil, n, api.ErrArg)
		refused([]byte{1}, n, api.ErrArg)
		refused([]byte{2}, n, api.ErrArg)
		refused(make([]byte, api.MaxBits+1), n, api.ErrLarge)
	}
	for _, n := range sizes {
		refused(make([]byte, n+1), n, api.ErrArg)
		refused(make([]byte, api.MaxBits), n, api.ErrArg)
		refused(make([]byte, api.MaxBits+1), n, api.ErrLarge)
		refused(withByte(n, n-1, 2), n, api.ErrArg)
		refused(withByte(n, 0, 128), n, api.ErrArg)
		refused(withByte(api.MaxBits+1, api.MaxBits, 3), n, api.ErrArg)
	}
}

func TestDecodeByHand(t *testing.T) {
	for name, x := range map[string]struct {
		soft []int
		want string
	}{
		"one, above 0":       {[]int{1}, "0"},
		"one, below 0":       {[]int{-1}, "1"},
		"one, 0":             {[]int{0}, "0"},
		"one, closed":        {[]int{-7}, ""},
		"two, both found":    {[]int{-3, 2}, "10"},
		"two, turned back":   {[]int{2, -3}, "11"},
		"two, both below":    {[]int{-2, -3}, "01"},
		"two, first is 0":    {[]int{0, -3}, "01"},
		"two, second is 0":   {[]int{-3, 0}, "01"},
		"two, the same size": {[]int{-3, 3}, "10"},
		"two, as the last":   {[]int{1, -3}, "1"},
		"two, sum is 0":      {[]int{3, -3}, "0"},
	} {
		got, err := polar.Decode(x.soft, len(x.want))
		sameBits(t, name, got, err, list(x.want))
	}
}

// TestDecodeOfFour has sights that were reckoned on paper.
func TestDecodeOfFour(t *testing.T) {
	// First half: of 5 -4 and -2 1 the lesser: -4 -1; of it the sights 1 (bit 0) and -5 (bit 1); their Turn is 1 1.
	// Second half: -4 - 5 and 1 + 2: -9 3; of it the sights -3 (bit 1) and 3 + 9 (bit 0).
	got, err := polar.Decode([]int{5, -2, -4, 1}, 4)
	sameBits(t, "all open", got, err, list("0110"))
	// With 2 and 3 open: the second half's list is -4 + 5 and 1 - 2: 1 -1; its sights -1 (bit 1) and -1 - 1 (bit 1).
	got, err = polar.Decode([]int{5, -2, -4, 1}, 2)
	sameBits(t, "two open", got, err, list("11"))
}

// TestDecodeOfClosed: a place that is not open is 0, though its sight is below 0, and those behind it are found so.
func TestDecodeOfClosed(t *testing.T) {
	got, err := polar.Decode([]int{-9, 2}, 1)
	sameBits(t, "the sum, not the difference", got, err, list("1"))
	got, err = polar.Decode([]int{-2, 9}, 1)
	sameBits(t, "the sum, not the difference", got, err, list("0"))
}

func TestDecodeOfSilence(t *testing.T) {
	for _, n := range sizes {
		for _, k := range []int{0, 1, n / 2, n} {
			got, err := polar.Decode(make([]int, n), k)
			sameBits(t, "Decode of silence", got, err, make([]byte, k))
		}
	}
}

func TestDecodeAsSpelt(t *testing.T) {
	s := source(4)
	for _, n := range sizes[:7] {
		for k := 0; k <= n; k += 1 + n/9 {
			for _, most := range []int{1, 2, 9, api.MaxSoft} {
				soft := s.soft(n, most)
				got, err := polar.Decode(soft, k)
				sameBits(t, "Decode", got, err, spokenDecode(soft, k))
			}
		}
	}
	for _, n := range sizes[7:] {
		for _, k := range []int{1, n/2 - 1, n} {
			soft := s.soft(n, 20)
			got, err := polar.Decode(soft, k)
			sameBits(t, "Decode of many", got, err, spokenDecode(soft, k))
		}
	}
}

// TestDecodeOfAllSmall tries each list of four numbers from -2 to 2.
func TestDecodeOfAllSmall(t *testing.T) {
	for x := range 5 * 5 * 5 * 5 {
		soft := []int{x%5 - 2, x/5%5 - 2, x/25%5 - 2, x/125 - 2}
		for k := range 5 {
			got, err := polar.Decode(soft, k)
			sameBits(t, "Decode of a small one", got, err, spokenDecode(soft, k))
		}
	}
}

func TestDecodeOfWhatWasEncoded(t *testing.T) {
	s := source(5)
	for _, n := range sizes {
		for k := 0; k <= n; k += 1 + n/40 {
			b := s.bits(k)
			for _, most := range []int{1, 50, api.MaxSoft} {
				soft := heard(spokenCode(b, n), func() int { return 1 + s.below(most) })
				got, err := polar.Decode(soft, k)
				sameBits(t, "Decode of what was encoded", got, err, b)
			}
		}
	}
}

func TestDecodeAtItsEdges(t *testing.T) {
	ones := slices.Repeat([]byte{1}, 512)
	for _, k := range []int{0, 1, 256, 511, 512} {
		soft := heard(spokenCode(ones[:k], 512), func() int { return api.MaxSoft })
		got, err := polar.Decode(soft, k)
		sameBits(t, "Decode of the surest", got, err, ones[:k])
	}
}

// TestDecodeOfTurned: a single bit that is turned is mended where few places are open.
func TestDecodeOfTurned(t *testing.T) {
	s := source(6)
	b := s.bits(8)
	for i := range 64 {
		soft := heard(spokenCode(b, 64), func() int { return 9 })
		soft[i] = -soft[i]
		got, err := polar.Decode(soft, 8)
		sameBits(t, "Decode of one turned", got, err, b)
	}
}

func TestDecodeRefuses(t *testing.T) {
	refused := func(soft []int, k int) {
		t.Helper()
		if got, err := polar.Decode(soft, k); err != api.ErrArg || got != nil {
			t.Errorf("%d numbers, %d bits: %v, %v; want ErrArg alone", len(soft), k, got, err)
		}
	}
	refused(nil, 0)
	for _, n := range wrongSizes {
		if n >= 0 && n <= 1<<20 {
			refused(make([]int, n), 0)
			refused(make([]int, n), 1)
		}
	}
	for _, n := range sizes {
		for _, k := range []int{-1, n + 1, math.MinInt, math.MaxInt} {
			refused(make([]int, n), k)
		}
		for _, x := range wrongSoft {
			refused(withNumber(n, 0, x), 0)
			refused(withNumber(n, n-1, x), n)
			refused(withNumber(n, n/2, x), -1)
		}
	}
}
