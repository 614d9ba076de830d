package harq_test

import (
	"math"
	"slices"
	"testing"

	"roamwave/api"
	"roamwave/harq"
)

// wrongNumbers are neither a process, nor a version, nor a limit.
var wrongNumbers = []int{-1, -2, -7, -8, 9, 10, 15, 16, 255, 256, 1 << 20, 1 << 32, 1<<32 + 1, -1 << 32,
	math.MaxInt32, math.MinInt32, math.MaxInt, math.MaxInt - 1, math.MinInt, math.MinInt + 1}

// wrongProcesses are none.
var wrongProcesses = append([]int{8}, wrongNumbers...)

// wrongVersions are none.
var wrongVersions = append([]int{4, 5, 6, 7, 8}, wrongNumbers...)

// wrongLimits are none.
var wrongLimits = append([]int{0}, wrongNumbers...)

// source of numbers that are mixed, but always the same.
type source uint64

func (s *source) below(n int) int {
	*s = *s*6364136223846793005 + 1442695040888963407
	return int(uint64(*s)>>33) % n
}

func (s *source) data(n int) string {
	d := make([]byte, n)
	for i := range d {
		d[i] = byte(s.below(256))
	}
	return string(d)
}

// often tells true so many times of ten.
func (s *source) often(times int) bool { return s.below(10) < times }

// newSender of a limit that may be.
func newSender(t *testing.T, limit int) *harq.Sender {
	t.Helper()
	s, err := harq.NewSender(limit)
	if err != api.OK || s == nil {
		t.Fatalf("NewSender(%d): %v, %v", limit, s, err)
	}
	return s
}

// submit what goes to the process that is wanted.
func submit(t *testing.T, s *harq.Sender, data string, want int) {
	t.Helper()
	if process, err := s.Submit(data); process != want || err != api.OK {
		t.Fatalf("Submit of %d bytes: %d, %v, want the process %d", len(data), process, err, want)
	}
}

// next fails unless the shot is as it is wanted.
func next(t *testing.T, s *harq.Sender, want api.Shot) {
	t.Helper()
	if x, err := s.Next(want.Process); x != want || err != api.OK {
		t.Fatalf("Next(%d): %+v, %v, want %+v", want.Process, x, err, want)
	}
}

// shoot is the next shot, whatever it is.
func shoot(t *testing.T, s *harq.Sender, process int) api.Shot {
	t.Helper()
	x, err := s.Next(process)
	if err != api.OK {
		t.Fatalf("Next(%d): %v", process, err)
	}
	return x
}

// answer fails unless it is told whether the process is done with.
func answer(t *testing.T, s *harq.Sender, process int, yes, want bool) {
	t.Helper()
	if done, err := s.Answer(process, yes); done != want || err != api.OK {
		t.Fatalf("Answer(%d, %v): %v, %v, want %v", process, yes, done, err, want)
	}
}

// waiting fails unless these processes have a block.
func waiting(t *testing.T, s *harq.Sender, want ...int) {
	t.Helper()
	if got := s.Waiting(); !slices.Equal(got, want) {
		t.Fatalf("Waiting: %v, want %v", got, want)
	}
}

// submitIs fails unless a Submit tells an error, and nothing else.
func submitIs(t *testing.T, s *harq.Sender, data string, want api.Errno) {
	t.Helper()
	if process, err := s.Submit(data); process != 0 || err != want {
		t.Errorf("Submit of %d bytes: %d, %v, want %v", len(data), process, err, want)
	}
}

// nextIs fails unless a Next tells an error, and nothing else.
func nextIs(t *testing.T, s *harq.Sender, process int, want api.Errno) {
	t.Helper()
	if x, err := s.Next(process); x != (api.Shot{}) || err != want {
		t.Errorf("Next(%d): %+v, %v, want %v", process, x, err, want)
	}
}

// answerIs fails unless both Answers tell an error, and nothing else.
func answerIs(t *testing.T, s *harq.Sender, process int, want api.Errno) {
	t.Helper()
	for _, yes := range []bool{true, false} {
		if done, err := s.Answer(process, yes); done || err != want {
			t.Errorf("Answer(%d, %v): %v, %v, want %v", process, yes, done, err, want)
		}
	}
}

// told is what a Take answers.
type told struct {
	data       string
	fresh, yes bool
	err        api.Errno
}

func take(r *harq.Receiver, x api.Shot, heard bool) told {
	data, fresh, yes, err := r.Take(x, heard)
	return told{data, fresh, yes, err}
}

// takes fails unless a Take answers what is wanted.
func takes(t *testing.T, what string, r *harq.Receiver, x api.Shot, heard bool, want told) {
	t.Helper()
	if got := take(r, x, heard); got != want {
		t.Errorf("%s: Take of %+v, heard %v: %+v, want %+v", what, x, heard, got, want)
	}
}

// freshly is the answer to a block that is heard for the first time.
func freshly(data string) told { return told{data: data, fresh: true, yes: true} }

var (
	again   = told{yes: true}
	neither = told{}
)
