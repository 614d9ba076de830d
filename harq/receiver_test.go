package harq_test

import (
	"strings"
	"testing"

	"roamwave/api"
	"roamwave/harq"
)

// TestFirstFlag: the flag that a receiver has at first is of a block that was heard, whatever is said now.
func TestFirstFlag(t *testing.T) {
	r := harq.NewReceiver()
	for process := range 8 {
		for version := range 4 {
			x := api.Shot{Process: process, Version: version, Data: "data"}
			takes(t, "not heard", r, x, false, again)
			takes(t, "heard", r, x, true, again)
		}
	}
}

func TestFreshOnce(t *testing.T) {
	r := harq.NewReceiver()
	for process := range 8 {
		x := api.Shot{Process: process, Flag: true, Data: "data"}
		takes(t, "at first", r, x, true, freshly("data"))
		for _, version := range []int{2, 3, 1, 0, 0} {
			x.Version = version
			takes(t, "heard again", r, x, true, again)
			takes(t, "not heard again", r, x, false, again)
		}
	}
}

// TestNotHeardYet: neither data nor yes, until it is heard.
func TestNotHeardYet(t *testing.T) {
	r := harq.NewReceiver()
	x := api.Shot{Process: 5, Flag: true, Data: "data"}
	for _, version := range []int{0, 2, 3, 1, 0, 0} {
		x.Version = version
		takes(t, "not yet", r, x, false, neither)
	}
	takes(t, "now", r, x, true, freshly("data"))
	takes(t, "before", r, x, false, again)
}

// TestAnotherFlag is of another block, also where its shot is not heard: then that flag is known, and the one ahead is another one's again.
func TestAnotherFlag(t *testing.T) {
	r := harq.NewReceiver()
	one := api.Shot{Process: 2, Flag: true, Data: "one"}
	two := api.Shot{Process: 2, Version: 2, Data: "two"}
	takes(t, "the first block", r, one, true, freshly("one"))
	takes(t, "the second one", r, two, false, neither)
	takes(t, "the second one", r, two, true, freshly("two"))
	takes(t, "the second one", r, two, true, again)
	takes(t, "the third one", r, one, true, freshly("one"))
	takes(t, "the fourth one, lost", r, two, false, neither)
	takes(t, "the fifth one", r, one, false, neither)
	takes(t, "the fifth one", r, one, true, freshly("one"))
	takes(t, "the fifth one", r, one, false, again)
}

// TestWhatIsFreshIsTheShots: the data is that of the shot that was heard.
func TestWhatIsFreshIsTheShots(t *testing.T) {
	r := harq.NewReceiver()
	takes(t, "not heard", r, api.Shot{Flag: true, Data: "spoilt"}, false, neither)
	takes(t, "heard", r, api.Shot{Flag: true, Version: 2, Data: "whole"}, true, freshly("whole"))
	takes(t, "heard again", r, api.Shot{Flag: true, Version: 3, Data: "other"}, true, again)
	takes(t, "nothing", r, api.Shot{}, true, freshly(""))
	takes(t, "nothing again", r, api.Shot{}, true, again)
}

func TestTakeSizes(t *testing.T) {
	s := source(2)
	r := harq.NewReceiver()
	flag := false
	for _, n := range []int{0, 1, 2, 255, 256, 1499, 1500} {
		flag = !flag
		data := s.data(n)
		takes(t, "a size", r, api.Shot{Process: 7, Version: 3, Flag: flag, Data: data}, true, freshly(data))
	}
}

// wrongShots of a process that is right, whose flag is this, and the error of each.
func wrongShots(process int, flag bool) map[api.Errno][]api.Shot {
	l := map[api.Errno][]api.Shot{}
	long := strings.Repeat("x", 1501)
	for _, version := range wrongVersions {
		l[api.ErrArg] = append(l[api.ErrArg], api.Shot{Process: process, Version: version, Flag: flag, Data: "x"},
			api.Shot{Process: process, Version: version, Flag: flag, Data: long})
	}
	for _, wrong := range wrongProcesses {
		l[api.ErrArg] = append(l[api.ErrArg], api.Shot{Process: wrong, Flag: flag, Data: "x"}, api.Shot{Process: wrong, Flag: flag, Data: long},
			api.Shot{Process: wrong, Version: 4, Flag: flag})
	}
	for _, n := range []int{1501, 1502, 4096, 1 << 20} {
		l[api.ErrLarge] = append(l[api.ErrLarge], api.Shot{Process: process, Version: n % 4, Flag: flag, Data: strings.Repeat("x", n)})
	}
	return l
}

// TestTakeOfWrong: nothing is changed, neither the flag nor what was heard.
func TestTakeOfWrong(t *testing.T) {
	r := harq.NewReceiver()
	refused := func(process int, flag bool) {
		t.Helper()
		for err, l := range wrongShots(process, flag) {
			for _, x := range l {
				for _, heard := range []bool{true, false} {
					if got := take(r, x, heard); got != (told{err: err}) {
						t.Errorf("Take of %d %d %v and %d bytes: %+v, want %v", x.Process, x.Version, x.Flag, len(x.Data), got, err)
					}
				}
			}
		}
	}
	for process := range 8 {
		x := api.Shot{Process: process, Data: "x"}
		refused(process, true)
		takes(t, "the first flag", r, x, true, again)
		x.Flag = true
		takes(t, "not heard", r, x, false, neither)
		refused(process, true)
		refused(process, false)
		takes(t, "heard", r, x, true, freshly("x"))
		refused(process, true)
		refused(process, false)
		takes(t, "heard before", r, x, true, again)
	}
}

// TestProcessesHearAlone: what is heard of one is not heard of another one.
func TestProcessesHearAlone(t *testing.T) {
	r := harq.NewReceiver()
	for process := range 8 {
		takes(t, "not heard", r, api.Shot{Process: process, Flag: true, Data: "x"}, false, neither)
	}
	for process := 7; process >= 0; process-- {
		takes(t, "heard", r, api.Shot{Process: process, Flag: true, Data: "x"}, true, freshly("x"))
	}
	takes(t, "another block", r, api.Shot{Process: 3, Data: "y"}, true, freshly("y"))
	for process := range 8 {
		takes(t, "as before", r, api.Shot{Process: process, Flag: process != 3, Data: "x"}, true, again)
	}
}
