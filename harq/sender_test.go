package harq_test

import (
	"strings"
	"testing"

	"roamwave/api"
	"roamwave/harq"
)

func TestNewSenderOfWrong(t *testing.T) {
	for _, limit := range wrongLimits {
		if s, err := harq.NewSender(limit); s != nil || err != api.ErrArg {
			t.Errorf("NewSender(%d): %v, %v", limit, s, err)
		}
	}
}

func TestNewSenderIsFree(t *testing.T) {
	for limit := 1; limit <= 8; limit++ {
		s := newSender(t, limit)
		waiting(t, s)
		for process := range 8 {
			nextIs(t, s, process, api.ErrAbsent)
			answerIs(t, s, process, api.ErrAbsent)
		}
	}
}

func TestSubmitTakesTheLeast(t *testing.T) {
	s := newSender(t, 3)
	for process := range 8 {
		submit(t, s, "x", process)
	}
	waiting(t, s, 0, 1, 2, 3, 4, 5, 6, 7)
	for _, process := range []int{6, 2, 7} {
		shoot(t, s, process)
		answer(t, s, process, true, true)
	}
	waiting(t, s, 0, 1, 3, 4, 5)
	submit(t, s, "y", 2)
	submit(t, s, "y", 6)
	waiting(t, s, 0, 1, 2, 3, 4, 5, 6)
	shoot(t, s, 0)
	answer(t, s, 0, true, true)
	submit(t, s, "y", 0)
	submit(t, s, "y", 7)
	submitIs(t, s, "y", api.ErrFull)
	waiting(t, s, 0, 1, 2, 3, 4, 5, 6, 7)
}

func TestSubmitSizes(t *testing.T) {
	r := source(1)
	s := newSender(t, 1)
	for i, n := range []int{0, 1, 2, 40, 1499, 1500} {
		data := r.data(n)
		submit(t, s, data, 0)
		next(t, s, api.Shot{Flag: i%2 == 0, Data: data})
		answer(t, s, 0, true, true)
	}
	for _, n := range []int{1501, 1502, 3000, 4096, 65536, 1 << 20} {
		submitIs(t, s, strings.Repeat("x", n), api.ErrLarge)
		waiting(t, s)
	}
	submit(t, s, "", 0)
	next(t, s, api.Shot{Flag: true})
}

// full is a sender with a block of each process, whose flag is true.
func full(t *testing.T, limit int) *harq.Sender {
	t.Helper()
	s := newSender(t, limit)
	for process := range 8 {
		submit(t, s, string(rune('a'+process)), process)
	}
	return s
}

// TestSubmitWhenFull: nothing is changed, no flag and no block; too much data is told first.
func TestSubmitWhenFull(t *testing.T) {
	s := full(t, 2)
	for range 3 {
		submitIs(t, s, "z", api.ErrFull)
		submitIs(t, s, "", api.ErrFull)
		submitIs(t, s, strings.Repeat("z", 1500), api.ErrFull)
		submitIs(t, s, strings.Repeat("z", 1501), api.ErrLarge)
	}
	for process := range 8 {
		next(t, s, api.Shot{Process: process, Flag: true, Data: string(rune('a' + process))})
		answer(t, s, process, false, false)
		next(t, s, api.Shot{Process: process, Version: 2, Flag: true, Data: string(rune('a' + process))})
		submitIs(t, s, "z", api.ErrFull)
	}
}

// TestFlagTurnsOver: with each block of a process, whether the one ahead was heard or lost; with no other's, and with no block that is refused.
func TestFlagTurnsOver(t *testing.T) {
	s := newSender(t, 1)
	for i := range 9 {
		submit(t, s, "low", 0)
		submitIs(t, s, strings.Repeat("x", 1501), api.ErrLarge)
		next(t, s, api.Shot{Flag: i%2 == 0, Data: "low"})
		answer(t, s, 0, i%3 == 0, true)
	}
	submit(t, s, "low", 0)
	submit(t, s, "high", 1)
	next(t, s, api.Shot{Process: 1, Flag: true, Data: "high"})
	next(t, s, api.Shot{Process: 0, Flag: false, Data: "low"})
}

func TestVersionsGoRound(t *testing.T) {
	s := newSender(t, 8)
	for round := range 3 {
		submit(t, s, "data", 0)
		for try, version := range []int{0, 2, 3, 1, 0, 2, 3, 1} {
			next(t, s, api.Shot{Version: version, Flag: round != 1, Data: "data"})
			answer(t, s, 0, false, try == 7)
		}
		nextIs(t, s, 0, api.ErrAbsent)
	}
}

// TestLost: a block is tried as often as the limit says, and no more.
func TestLost(t *testing.T) {
	for limit := 1; limit <= 8; limit++ {
		s := full(t, limit)
		for process := range 8 {
			for try := 1; try <= limit; try++ {
				shoot(t, s, process)
				answer(t, s, process, false, try == limit)
			}
			nextIs(t, s, process, api.ErrAbsent)
			answerIs(t, s, process, api.ErrAbsent)
		}
		waiting(t, s)
	}
}

// TestYesFrees: at each try, the last one too; the next block of the process begins anew.
func TestYesFrees(t *testing.T) {
	for limit := 1; limit <= 8; limit++ {
		s := newSender(t, limit)
		for tries := 1; tries <= limit; tries++ {
			submit(t, s, "data", 0)
			for try := 1; try < tries; try++ {
				shoot(t, s, 0)
				answer(t, s, 0, false, false)
			}
			shoot(t, s, 0)
			waiting(t, s, 0)
			answer(t, s, 0, true, true)
			waiting(t, s)
			nextIs(t, s, 0, api.ErrAbsent)
			answerIs(t, s, 0, api.ErrAbsent)
		}
	}
}

// TestTurnsOfTriesAndAnswers: a second try waits for the answer to the first one; an answer waits for a try; neither changes anything.
func TestTurnsOfTriesAndAnswers(t *testing.T) {
	s := newSender(t, 3)
	submit(t, s, "data", 0)
	for try, version := range []int{0, 2, 3} {
		for range 4 {
			answerIs(t, s, 0, api.ErrState)
		}
		next(t, s, api.Shot{Version: version, Flag: true, Data: "data"})
		for range 4 {
			nextIs(t, s, 0, api.ErrState)
		}
		waiting(t, s, 0)
		answer(t, s, 0, false, try == 2)
	}
	waiting(t, s)
}

func TestWrongProcesses(t *testing.T) {
	for _, s := range []*harq.Sender{newSender(t, 1), full(t, 1), full(t, 8)} {
		for _, process := range wrongProcesses {
			was := len(s.Waiting())
			nextIs(t, s, process, api.ErrArg)
			answerIs(t, s, process, api.ErrArg)
			if len(s.Waiting()) != was {
				t.Errorf("the process %d that is none changes which wait: %v", process, s.Waiting())
			}
		}
	}
}

// TestProcessesStandAlone: tries and answers of one are none of another one's.
func TestProcessesStandAlone(t *testing.T) {
	s := full(t, 2)
	for process := 7; process >= 0; process-- {
		next(t, s, api.Shot{Process: process, Flag: true, Data: string(rune('a' + process))})
	}
	for process := range 8 {
		if process%2 == 0 {
			answer(t, s, process, false, false)
		}
	}
	for process := range 8 {
		if process%2 == 0 {
			next(t, s, api.Shot{Process: process, Version: 2, Flag: true, Data: string(rune('a' + process))})
		} else {
			nextIs(t, s, process, api.ErrState)
		}
	}
	for _, process := range []int{4, 1, 6} {
		answer(t, s, process, process == 1, true)
	}
	waiting(t, s, 0, 2, 3, 5, 7)
}
