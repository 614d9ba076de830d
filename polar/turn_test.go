package polar_test

import (
	"testing"

	"roamwave/api"
	"roamwave/polar"
)

func TestTurnByHand(t *testing.T) {
	for from, to := range map[string]string{
		"0": "0", "1": "1",
		"00": "00", "01": "11", "10": "10", "11": "01",
		"1011": "1101", "1000": "1000", "0100": "1100", "0010": "1010", "0001": "1111",
		"0000 0001": "1111 1111", "1000 0000": "1000 0000", "0001 0110": "1001 0110",
	} {
		got, err := polar.Turn(list(from))
		sameBits(t, "Turn of "+from, got, err, list(to))
	}
}

func TestTurnAsSpelt(t *testing.T) {
	s := source(1)
	for _, n := range sizes {
		for range 10 {
			b := s.bits(n)
			got, err := polar.Turn(b)
			sameBits(t, "Turn", got, err, spokenTurn(b))
		}
	}
}

// TestTurnOfOneBit: a single 1 comes out at those places whose number has no bit that its own place's has not.
func TestTurnOfOneBit(t *testing.T) {
	for _, n := range sizes {
		for place := range n {
			want := make([]byte, n)
			for i := range want {
				if i&place == i {
					want[i] = 1
				}
			}
			got, err := polar.Turn(withByte(n, place, 1))
			sameBits(t, "Turn of a single 1", got, err, want)
		}
	}
}

func TestTurnTwice(t *testing.T) {
	s := source(2)
	for _, n := range sizes {
		for range 20 {
			b, c := s.bits(n), s.bits(n)
			once, _ := polar.Turn(b)
			twice, err := polar.Turn(once)
			sameBits(t, "turned twice", twice, err, b)
			other, _ := polar.Turn(c)
			both, err := polar.Turn(added(b, c))
			sameBits(t, "Turn of a sum", both, err, added(once, other))
		}
	}
}

func TestTurnRefuses(t *testing.T) {
	refused := func(b []byte, want api.Errno) {
		t.Helper()
		if got, err := polar.Turn(b); err != want || got != nil {
			t.Errorf("%d bits: %v, %v; want %v alone", len(b), got, err, want)
		}
	}
	refused(nil, api.ErrArg)
	refused([]byte{}, api.ErrArg)
	for _, n := range wrongSizes {
		if n >= 0 && n <= api.MaxBits {
			refused(make([]byte, n), api.ErrArg)
		}
	}
	for _, n := range sizes {
		refused(withByte(n, n-1, 2), api.ErrArg)
		refused(withByte(n, 0, 255), api.ErrArg)
	}
	refused(make([]byte, api.MaxBits+1), api.ErrLarge)
	refused(make([]byte, 2*api.MaxBits), api.ErrLarge)
	refused(withByte(api.MaxBits+1, api.MaxBits, 2), api.ErrArg)
}
