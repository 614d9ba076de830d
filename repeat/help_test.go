package repeat_test

import (
	"math"
	"slices"
	"testing"

	"roamwave/api"
	"roamwave/repeat"
)

// wrongNumbers are of no use anywhere in this package.
var wrongNumbers = []int{-1, -2, -32, -63, -64, -65, -1500, 1501, 1502, 4096, 1 << 16, 1 << 31, 1 << 32, 1<<32 + 1, -1 << 32, 1 << 40,
	math.MaxInt32, math.MinInt32, math.MaxInt, math.MaxInt - 1, math.MinInt, math.MinInt + 1}

// wrongUnits are no NUMBERs.
var wrongUnits = append([]int{64, 65, 127, 128, 256, 1500}, wrongNumbers...)

// source of numbers that are mixed, but always the same.
type source uint64

func (s *source) below(n int) int {
	*s = *s*6364136223846793005 + 1442695040888963407
	return int(uint64(*s)>>33) % n
}

// often tells true so many times of ten.
func (s *source) often(times int) bool { return s.below(10) < times }

// text of so many bytes.
func (s *source) text(n int) string {
	d := make([]byte, n)
	for i := range d {
		d[i] = byte(s.below(256))
	}
	return string(d)
}

// pick one of a list.
func pick[T any](s *source, l []T) T { return l[s.below(len(l))] }

// newSender of a window that may be, with these units.
func newSender(t *testing.T, window int, units ...string) *repeat.Sender {
	t.Helper()
	s, err := repeat.NewSender(window)
	if err != api.OK || s == nil {
		t.Fatalf("NewSender(%d): %v, %v", window, s, err)
	}
	for _, unit := range units {
		submits(t, s, unit, api.OK)
	}
	return s
}

// newReceiver of a window that may be.
func newReceiver(t *testing.T, window int) *repeat.Receiver {
	t.Helper()
	r, err := repeat.NewReceiver(window)
	if err != api.OK || r == nil {
		t.Fatalf("NewReceiver(%d): %v, %v", window, r, err)
	}
	return r
}

// submits fails unless a Submit tells this.
func submits(t *testing.T, s *repeat.Sender, unit string, want api.Errno) {
	t.Helper()
	if err := s.Submit(unit); err != want {
		t.Errorf("Submit of %d bytes: %v, want %v", len(unit), err, want)
	}
}

// nexts fails unless the next piece is the one that is wanted.
func nexts(t *testing.T, s *repeat.Sender, size int, want api.Piece) {
	t.Helper()
	if p, err := s.Next(size); p != want || err != api.OK {
		t.Errorf("Next(%d): %#v, %v, want %#v", size, p, err, want)
	}
}

// nextIs fails unless a Next tells an error, and nothing else.
func nextIs(t *testing.T, s *repeat.Sender, size int, want api.Errno) {
	t.Helper()
	if p, err := s.Next(size); p != (api.Piece{}) || err != want {
		t.Errorf("Next(%d): %#v, %v, want %v", size, p, err, want)
	}
}

// sendAll sends until nothing is left to be sent.
func sendAll(t *testing.T, s *repeat.Sender, size int) []api.Piece {
	t.Helper()
	var l []api.Piece
	for {
		p, err := s.Next(size)
		if err == api.ErrAbsent {
			return l
		}
		if err != api.OK || len(p.Data) < 1 || len(p.Data) > size {
			t.Fatalf("Next(%d): %#v, %v", size, p, err)
		}
		l = append(l, p)
	}
}

// hears fails unless the sender takes a report as it is wanted.
func hears(t *testing.T, s *repeat.Sender, want api.Errno, next int, missing ...api.Gap) {
	t.Helper()
	if err := s.Take(api.Report{Next: next, Missing: missing}); err != want {
		t.Errorf("Take of %d, %v: %v, want %v", next, missing, err, want)
	}
}

// waits fails unless so many units are not done.
func waits(t *testing.T, s *repeat.Sender, want int) {
	t.Helper()
	if n := s.Waiting(); n != want {
		t.Errorf("Waiting: %d, want %d", n, want)
	}
}

// takes fails unless these units are told when a piece is taken.
func takes(t *testing.T, r *repeat.Receiver, p api.Piece, want ...string) {
	t.Helper()
	if l, err := r.Take(p); !slices.Equal(l, want) || err != api.OK {
		t.Errorf("Take of %#v: %q, %v, want %q", p, l, err, want)
	}
}

// takeIs fails unless a Take tells an error, and nothing else.
func takeIs(t *testing.T, r *repeat.Receiver, p api.Piece, want api.Errno) {
	t.Helper()
	if l, err := r.Take(p); l != nil || err != want {
		t.Errorf("Take of %d, %d, %v and %d bytes: %q, %v, want %v", p.Number, p.From, p.Last, len(p.Data), l, err, want)
	}
}

// reports fails unless the report is the one that is wanted.
func reports(t *testing.T, r *repeat.Receiver, next int, missing ...api.Gap) {
	t.Helper()
	if x := r.Report(); x.Next != next || !slices.Equal(x.Missing, missing) {
		t.Errorf("Report: %#v, want %d, %#v", x, next, missing)
	}
}
