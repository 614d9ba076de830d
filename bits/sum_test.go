package bits_test

import (
	"testing"

	"roamwave/api"
	"roamwave/bits"
)

// kinds with their divisors, whose places are told one by one as the document does.
var kinds = []struct {
	kind, width int
	places      []int
}{
	{api.Sum6, 6, []int{6, 5, 0}},
	{api.Sum11, 11, []int{11, 10, 9, 5, 0}},
	{api.Sum16, 16, []int{16, 12, 5, 0}},
	{api.Sum24, 24, []int{24, 23, 18, 17, 14, 11, 10, 7, 6, 5, 4, 3, 1, 0}},
}

// divided is a sum by division on paper: the divisor is taken off at each place that has a 1.
func divided(b []byte, width int, places []int) []byte {
	left := append(append([]byte{}, b...), make([]byte, width)...)
	for i := range b {
		if left[i] == 0 {
			continue
		}
		for _, p := range places {
			left[i+width-p] ^= 1
		}
	}
	return left[len(b):]
}

func TestSumTold(t *testing.T) {
	for _, row := range []struct {
		b    string
		want [4]string
	}{
		{"", [4]string{"000000", "00000000000", "0000000000000000", "000000000000000000000000"}},
		{"0", [4]string{"000000", "00000000000", "0000000000000000", "000000000000000000000000"}},
		{"1", [4]string{"100001", "11000100001", "0001000000100001", "100001100100110011111011"}},
		{"0001", [4]string{"100001", "11000100001", "0001000000100001", "100001100100110011111011"}},
		{"1000", [4]string{"101111", "11110101101", "1000000100001000", "101000011000000100111001"}},
		{"110100", [4]string{"000111", "11101001011", "0111011011010111", "010110100111100110000001"}},
		{"11111111", [4]string{"001001", "10010110001", "0001111011110000", "110111011000010100111000"}},
	} {
		for kind, want := range row.want {
			got, err := bits.Sum(list(row.b), kind)
			same(t, row.b, got, err, want)
		}
	}
}

func TestSumDivided(t *testing.T) {
	for _, k := range kinds {
		for _, n := range []int{2, 5, 6, 7, 11, 16, 24, 25, 31, 32, 33, 63, 64, 65, 200, 1000, api.MaxBits - 1, api.MaxBits} {
			b := mixed(uint64(n+k.kind), n)
			got, err := bits.Sum(b, k.kind)
			same(t, "mixed", got, err, text(divided(b, k.width, k.places)))
		}
		for place := range 80 {
			b := withByte(80, place, 1)
			got, err := bits.Sum(b, k.kind)
			same(t, "one bit", got, err, text(divided(b, k.width, k.places)))
		}
	}
}

func TestSumAdded(t *testing.T) {
	for _, k := range kinds {
		for _, n := range []int{1, 9, 100, api.MaxBits} {
			a, b := mixed(uint64(n), n), mixed(uint64(n+7), n)
			sumA, _ := bits.Sum(a, k.kind)
			sumB, _ := bits.Sum(b, k.kind)
			got, err := bits.Sum(added(a, b), k.kind)
			same(t, "added", got, err, text(added(sumA, sumB)))
		}
	}
}

func TestSealAndOpen(t *testing.T) {
	for _, k := range kinds {
		for _, n := range []int{0, 1, 5, 6, 7, 30, 1000, api.MaxBits - k.width - 1, api.MaxBits - k.width} {
			b := mixed(uint64(n), n)
			sealed, err := bits.Seal(b, k.kind)
			same(t, "sealed", sealed, err, text(b)+text(divided(b, k.width, k.places)))
			opened, ok, err := bits.Open(sealed, k.kind)
			same(t, "opened", opened, err, text(b))
			if !ok {
				t.Errorf("kind %d, %d bits: not opened", k.kind, n)
			}
		}
	}
}

func TestSealTooLarge(t *testing.T) {
	for _, k := range kinds {
		for n := api.MaxBits - k.width + 1; n <= api.MaxBits; n++ {
			sealed, err := bits.Seal(make([]byte, n), k.kind)
			refused(t, "sealed", sealed, err, api.ErrLarge)
		}
	}
}

// shut fails unless bits are not opened, without an error.
func shut(t *testing.T, b []byte, kind int) {
	t.Helper()
	if got, ok, err := bits.Open(b, kind); len(got) != 0 || ok || err != api.OK {
		t.Errorf("kind %d, %s: %v, %v, %v", kind, text(b), got, ok, err)
	}
}

func TestOpenFewer(t *testing.T) {
	for _, k := range kinds {
		shut(t, nil, k.kind)
		for n := range k.width {
			shut(t, make([]byte, n), k.kind)
			shut(t, mixed(uint64(n), n), k.kind)
		}
		got, ok, err := bits.Open(make([]byte, k.width), k.kind)
		if len(got) != 0 || !ok || err != api.OK {
			t.Errorf("kind %d, the sum of nothing: %v, %v, %v", k.kind, got, ok, err)
		}
		for place := range k.width {
			shut(t, withByte(k.width, place, 1), k.kind)
		}
	}
}

func TestOpenOtherKind(t *testing.T) {
	for _, k := range kinds {
		sealed, _ := bits.Seal(list("1101001110101"), k.kind)
		for _, other := range kinds {
			if other.kind != k.kind {
				shut(t, sealed, other.kind)
			}
		}
	}
}

// burst is a change of sealed bits from a place on, where the pattern has a 1.
func burst(sealed []byte, from int, pattern uint64) []byte {
	b := append([]byte{}, sealed...)
	for i := 0; pattern>>i != 0; i++ {
		b[from+i] ^= byte(pattern >> i & 1)
	}
	return b
}

func TestEachBurstIsSeen(t *testing.T) {
	for _, k := range kinds {
		sealed, _ := bits.Seal(mixed(3, 30), k.kind)
		for from := range len(sealed) - k.width + 1 {
			// All patterns of the narrow kinds, and of the others each so manieth, with all that are full or of one bit.
			stride := 1 + uint64(1)<<k.width/3000
			for pattern := uint64(1); pattern < 1<<k.width; pattern += stride {
				shut(t, burst(sealed, from, pattern), k.kind)
			}
			for i := range k.width {
				shut(t, burst(sealed, from, 1<<i), k.kind)
				shut(t, burst(sealed, from, 1<<(i+1)-1), k.kind)
			}
		}
	}
}

func TestDivisorIsNotSeen(t *testing.T) {
	// A change of w + 1 places that is the divisor itself must leave a sum: it shows that nothing but the sum is looked at.
	for _, k := range kinds {
		sealed, _ := bits.Seal(mixed(4, 20), k.kind)
		for _, p := range k.places {
			sealed[k.width-p] ^= 1
		}
		got, ok, err := bits.Open(sealed, k.kind)
		same(t, "the divisor added", got, err, text(sealed[:20]))
		if !ok {
			t.Errorf("kind %d: not opened", k.kind)
		}
	}
}

// eachSum asks the three calls of a kind, and fails unless all tell the error alone.
func eachSum(t *testing.T, what string, b []byte, kind int, want api.Errno) {
	t.Helper()
	got, err := bits.Sum(b, kind)
	refused(t, "Sum: "+what, got, err, want)
	got, err = bits.Seal(b, kind)
	refused(t, "Seal: "+what, got, err, want)
	got, ok, err := bits.Open(b, kind)
	refused(t, "Open: "+what, got, err, want)
	if ok {
		t.Errorf("Open: %s: true beside an error", what)
	}
}

func TestSumWrong(t *testing.T) {
	wrongKinds := append([]int{4, 5, 6, 11, 16, 24, 256, 1 << 32}, extremes...)
	for what, row := range wrongBits() {
		for _, k := range kinds {
			eachSum(t, what, row.b, k.kind, row.want)
		}
		// The errors of bits are told ahead of that of the kind.
		for _, kind := range wrongKinds {
			eachSum(t, what, row.b, kind, row.want)
		}
	}
	for _, kind := range wrongKinds {
		eachSum(t, "no kind, no bits", nil, kind, api.ErrArg)
		eachSum(t, "no kind", mixed(1, 40), kind, api.ErrArg)
		eachSum(t, "no kind, as many as may be", make([]byte, api.MaxBits), kind, api.ErrArg)
	}
}
