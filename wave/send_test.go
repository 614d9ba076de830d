package wave_test

import (
	"slices"
	"testing"

	"roamwave/api"
	"roamwave/wave"
)

func TestSendExamples(t *testing.T) {
	for _, l := range []struct {
		bits  string
		order int
		want  []api.Point
	}{
		{"01", 2, []api.Point{{I: 1, Q: -1}}},
		{"00 01 10 11", 2, []api.Point{{I: 1, Q: 1}, {I: 1, Q: -1}, {I: -1, Q: 1}, {I: -1, Q: -1}}},
		{"0000", 4, []api.Point{{I: 1, Q: 1}}},
		{"0011", 4, []api.Point{{I: 3, Q: 3}}},
		{"0001 0010 1000 0100", 4, []api.Point{{I: 1, Q: 3}, {I: 3, Q: 1}, {I: -1, Q: 1}, {I: 1, Q: -1}}},
		{"1111", 4, []api.Point{{I: -3, Q: -3}}},
		{"001111", 6, []api.Point{{I: 7, Q: 7}}},
		{"000000 000011 001100", 6, []api.Point{{I: 3, Q: 3}, {I: 1, Q: 1}, {I: 5, Q: 5}}},
		{"000001 000100 010000", 6, []api.Point{{I: 3, Q: 1}, {I: 3, Q: 5}, {I: 3, Q: -3}}},
		{"000010 001000 100000", 6, []api.Point{{I: 1, Q: 3}, {I: 5, Q: 3}, {I: -3, Q: 3}}},
		{"111111", 6, []api.Point{{I: -7, Q: -7}}},
	} {
		if got := send(t, list(l.bits), l.order); !slices.Equal(got, l.want) {
			t.Errorf("Send(%s, %d): %v, want %v", l.bits, l.order, got, l.want)
		}
	}
}

func TestSendEachPoint(t *testing.T) {
	for _, order := range orders {
		for _, s := range sky(order) {
			if got := send(t, s.bits, order); got[0] != s.point {
				t.Errorf("Send(%s, %d): %v, want %v", text(s.bits), order, got, s.point)
			}
		}
	}
}

// TestPointsDiffer: each list of bits has a point of its own.
func TestPointsDiffer(t *testing.T) {
	for _, order := range orders {
		whose := map[api.Point]int{}
		for i, s := range sky(order) {
			p := send(t, s.bits, order)[0]
			if other, there := whose[p]; there {
				t.Errorf("order %d: %v is of the lists %d and %d", order, p, other, i)
			}
			whose[p] = i
		}
	}
}

func TestSendManyPoints(t *testing.T) {
	s := source(1)
	for _, order := range orders {
		for _, count := range []int{1, 2, 3, 17, 100, api.MaxBits/order - 1, api.MaxBits / order} {
			b := s.bits(count * order)
			got := send(t, b, order)
			for i, p := range got {
				if want := spokenPoint(b[i*order : (i+1)*order]); p != want {
					t.Fatalf("order %d, point %d of %d: %v, want %v", order, i, count, p, want)
				}
			}
		}
	}
}

func TestSendNothing(t *testing.T) {
	for _, order := range orders {
		send(t, nil, order)
		send(t, []byte{}, order)
	}
}

// sendFails fails unless Send answers an error, and nothing beside it.
func sendFails(t *testing.T, what string, b []byte, order int, want api.Errno) {
	t.Helper()
	if got, err := wave.Send(b, order); err != want || got != nil {
		t.Errorf("%s, %d bits, order %d: %v, %v, want %v", what, len(b), order, got, err, want)
	}
}

func TestSendWrongOrder(t *testing.T) {
	s := source(2)
	for _, order := range wrongOrders {
		for _, n := range []int{0, 1, 2, 12, 24, 120, 4092, 4096} {
			sendFails(t, "a wrong order", s.bits(n), order, api.ErrArg)
		}
		sendFails(t, "a wrong order, no list", nil, order, api.ErrArg)
	}
}

func TestSendNoMultiple(t *testing.T) {
	for _, order := range orders {
		for n := range api.MaxBits + 1 {
			if n%order != 0 {
				sendFails(t, "no multiple", make([]byte, n), order, api.ErrArg)
			}
		}
	}
}

func TestSendNoBits(t *testing.T) {
	for _, order := range append(wrongOrders, orders...) {
		for _, x := range []byte{2, 3, 128, 254, 255, '0', '1'} {
			for _, place := range []int{0, 1, 6, 11} {
				sendFails(t, "no bits", withByte(12, place, x), order, api.ErrArg)
			}
			sendFails(t, "no bits, and too many", withByte(api.MaxBits+2, api.MaxBits+1, x), order, api.ErrArg)
		}
	}
}

// TestSendTooMany: the errors of bits come first, so a wrong order makes no difference.
func TestSendTooMany(t *testing.T) {
	for _, order := range append(wrongOrders, orders...) {
		for _, n := range []int{api.MaxBits + 1, api.MaxBits + 2, api.MaxBits + 4, 4098, 4100, 4104, 12288} {
			sendFails(t, "too many", make([]byte, n), order, api.ErrLarge)
		}
	}
}
