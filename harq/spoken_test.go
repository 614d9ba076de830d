package harq_test

import (
	"slices"
	"testing"

	"roamwave/api"
	"roamwave/harq"
)

// spokenSender does what P20 says, step by step: of each process all that was done with its block is kept.
type spokenSender struct {
	limit    int
	free     [8]bool
	flag     [8]bool
	data     [8]string
	shots    [8]int
	answered [8]int
}

func newSpokenSender(limit int) *spokenSender {
	s := &spokenSender{limit: limit}
	for p := range 8 {
		s.free[p] = true
	}
	return s
}

func (s *spokenSender) submit(data string) (int, api.Errno) {
	if len(data) > 1500 {
		return 0, api.ErrLarge
	}
	p := slices.Index(s.free[:], true)
	if p < 0 {
		return 0, api.ErrFull
	}
	s.free[p] = false
	s.flag[p] = !s.flag[p]
	s.data[p] = data
	s.shots[p], s.answered[p] = 0, 0
	return p, api.OK
}

func (s *spokenSender) next(p int) (api.Shot, api.Errno) {
	switch {
	case p < 0 || p > 7:
		return api.Shot{}, api.ErrArg
	case s.free[p]:
		return api.Shot{}, api.ErrAbsent
	case s.shots[p] != s.answered[p]:
		return api.Shot{}, api.ErrState
	}
	version := []int{0, 2, 3, 1, 0, 2, 3, 1}[s.shots[p]]
	s.shots[p]++
	return api.Shot{Process: p, Version: version, Flag: s.flag[p], Data: s.data[p]}, api.OK
}

func (s *spokenSender) answer(p int, yes bool) (bool, api.Errno) {
	switch {
	case p < 0 || p > 7:
		return false, api.ErrArg
	case s.free[p]:
		return false, api.ErrAbsent
	case s.shots[p] == s.answered[p]:
		return false, api.ErrState
	}
	s.answered[p]++
	s.free[p] = yes || s.answered[p] == s.limit
	return s.free[p], api.OK
}

func (s *spokenSender) waiting() []int {
	var l []int
	for p := range 8 {
		if !s.free[p] {
			l = append(l, p)
		}
	}
	return l
}

// TestSenderAsSpoken: any calls, right ones and wrong ones, at all limits.
func TestSenderAsSpoken(t *testing.T) {
	for limit := 1; limit <= 8; limit++ {
		r := source(limit)
		s, spoken := newSender(t, limit), newSpokenSender(limit)
		for range 5000 {
			p := r.below(8)
			if r.below(20) == 0 {
				p = wrongProcesses[r.below(len(wrongProcesses))]
			}
			switch r.below(5) {
			case 0:
				data := r.data(r.below(4) * 501)
				got, err := s.Submit(data)
				if want, wantErr := spoken.submit(data); got != want || err != wantErr {
					t.Fatalf("limit %d, Submit of %d bytes: %d, %v, want %d, %v", limit, len(data), got, err, want, wantErr)
				}
			case 1, 2:
				got, err := s.Next(p)
				if want, wantErr := spoken.next(p); got != want || err != wantErr {
					t.Fatalf("limit %d, Next(%d): %+v, %v, want %+v, %v", limit, p, got, err, want, wantErr)
				}
			default:
				yes := r.often(2)
				got, err := s.Answer(p, yes)
				if want, wantErr := spoken.answer(p, yes); got != want || err != wantErr {
					t.Fatalf("limit %d, Answer(%d, %v): %v, %v, want %v, %v", limit, p, yes, got, err, want, wantErr)
				}
			}
			waiting(t, s, spoken.waiting()...)
		}
	}
}

// spokenReceiver does what P21 says, sentence by sentence.
type spokenReceiver struct {
	flag, heard [8]bool
}

func newSpokenReceiver() *spokenReceiver {
	r := &spokenReceiver{}
	for p := range 8 {
		r.heard[p] = true
	}
	return r
}

func (r *spokenReceiver) take(x api.Shot, heard bool) told {
	if x.Process < 0 || x.Process > 7 || x.Version < 0 || x.Version > 3 {
		return told{err: api.ErrArg}
	}
	if len(x.Data) > 1500 {
		return told{err: api.ErrLarge}
	}
	if x.Flag != r.flag[x.Process] {
		r.flag[x.Process] = x.Flag
		r.heard[x.Process] = false
	}
	before := r.heard[x.Process]
	if heard && !before {
		r.heard[x.Process] = true
		return told{x.Data, true, true, api.OK}
	}
	if before {
		return told{"", false, true, api.OK}
	}
	return told{}
}

// TestReceiverAsSpoken: any shots, right ones and wrong ones, heard and not.
func TestReceiverAsSpoken(t *testing.T) {
	s := source(20)
	for range 20 {
		r, spoken := harq.NewReceiver(), newSpokenReceiver()
		for range 1000 {
			x := api.Shot{Process: s.below(8), Version: s.below(4), Flag: s.often(5), Data: s.data(s.below(5))}
			switch s.below(30) {
			case 0:
				x.Process = wrongProcesses[s.below(len(wrongProcesses))]
			case 1:
				x.Version = wrongVersions[s.below(len(wrongVersions))]
			case 2:
				x.Data = s.data(1500 + s.below(2))
			}
			heard := s.often(5)
			takes(t, "as spoken", r, x, heard, spoken.take(x, heard))
		}
	}
}
