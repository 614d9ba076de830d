package conv_test

import (
	"testing"

	"roamwave/api"
	"roamwave/conv"
)

func TestEncodeWrittenOut(t *testing.T) {
	for in, want := range map[string]string{
		"":         "000 000 000 000 000 000",
		"0":        "000 000 000 000 000 000 000",
		"1":        "111 101 111 110 001 010 111",
		"01":       "000 111 101 111 110 001 010 111",
		"11":       "111 010 010 001 111 011 101 111",
		"10000000": "111 101 111 110 001 010 111 000 000 000 000 000 000 000",
	} {
		got, err := conv.Encode(list(in))
		sameBits(t, "Encode of "+in, got, err, list(want))
	}
}

func TestEncodeAsSpelt(t *testing.T) {
	s := source(1)
	for n := range 401 {
		b := s.bits(n)
		got, err := conv.Encode(b)
		if len(got) != 3*(n+6) {
			t.Errorf("Encode of %d bits: %d bits", n, len(got))
		}
		sameBits(t, "Encode of "+text(b), got, err, spoken(b))
	}
}

func TestEncodeEachWindow(t *testing.T) {
	for w := range 1 << 7 {
		b := make([]byte, 7)
		for i := range b {
			b[i] = byte(w >> i & 1)
		}
		got, err := conv.Encode(b)
		sameBits(t, "Encode of "+text(b), got, err, spoken(b))
	}
}

func TestEncodeOfASum(t *testing.T) {
	s := source(2)
	for _, n := range []int{1, 7, 50, 400} {
		a, b := s.bits(n), s.bits(n)
		both := make([]byte, n)
		for i := range both {
			both[i] = a[i] ^ b[i]
		}
		codedA, _ := conv.Encode(a)
		codedB, _ := conv.Encode(b)
		for i := range codedA {
			codedA[i] ^= codedB[i]
		}
		got, err := conv.Encode(both)
		sameBits(t, "Encode of a sum", got, err, codedA)
	}
}

func TestEncodeRefuses(t *testing.T) {
	for name, x := range wrongBits {
		if got, err := conv.Encode(x.b); err != x.want || got != nil {
			t.Errorf("%s: %v, %v; want no list, %v", name, got, err, x.want)
		}
	}
	if got, err := conv.Encode(make([]byte, 400)); err != api.OK || len(got) != 1218 {
		t.Errorf("400 bits: %d bits, %v", len(got), err)
	}
}
