package core_test

import (
	"math"
	"testing"

	"roamwave/api"
)

// TestLend: the least of the unit and what is left, until nothing is.
func TestLend(t *testing.T) {
	for _, x := range []struct {
		unit, quota int
		want        []int
	}{
		{10, 0, nil}, {10, 1, []int{1}}, {10, 9, []int{9}}, {10, 10, []int{10}}, {10, 11, []int{10, 1}}, {10, 25, []int{10, 10, 5}}, {10, 30, []int{10, 10, 10}},
		{1, 3, []int{1, 1, 1}}, {1000000, 999999, []int{999999}}, {1000000, 1000000, []int{1000000}}, {1000000, 2000001, []int{1000000, 1000000, 1}},
	} {
		c := coreWith(t, x.unit, x.quota)
		lent := 0
		for i, bytes := range x.want {
			lends(t, c, 1, i+1, bytes)
			lent += bytes
			record(t, c, 1, x.quota-lent, lent, 0)
		}
		lendIs(t, c, 1, api.ErrQuota)
		lendIs(t, c, 1, api.ErrQuota)
		record(t, c, 1, 0, x.quota, 0)
	}
}

// TestLendAllOfTheGreatestQuota: a thousand grants of the greatest unit.
func TestLendAllOfTheGreatestQuota(t *testing.T) {
	c := coreWith(t, 1000000, 1000000000)
	for i := range 1000 {
		lends(t, c, 1, i+1, 1000000)
		reports(t, c, i+1, 1, 1000000, i%2 == 0, api.OK)
	}
	lendIs(t, c, 1, api.ErrQuota)
	record(t, c, 1, 0, 0, 1000000000)
}

// TestLendAwake: ErrState is told ahead of ErrQuota.
func TestLendAwake(t *testing.T) {
	c := newCore(t, 10)
	is(t, "Join", c.Join(1, 0), api.OK)
	lendIs(t, c, 1, api.ErrState)
	is(t, "Attach", c.Attach(1, 5), api.OK)
	lendIs(t, c, 1, api.ErrQuota)
	is(t, "Sleep", c.Sleep(1), api.OK)
	lendIs(t, c, 1, api.ErrState)
}

// TestGrantNumbers: from 1 on, of all together; calls that lend nothing use none up, and no number comes again.
func TestGrantNumbers(t *testing.T) {
	c := coreWith(t, 10, 25)
	for _, who := range []int{2, 16} {
		is(t, "Join", c.Join(who, 25), api.OK)
		lendIs(t, c, who, api.ErrState)
		is(t, "Attach", c.Attach(who, 5), api.OK)
	}
	lends(t, c, 1, 1, 10)
	lends(t, c, 16, 2, 10)
	lends(t, c, 1, 3, 10)
	lendIs(t, c, 3, api.ErrUnknown)
	lends(t, c, 2, 4, 10)
	lends(t, c, 1, 5, 5)
	lendIs(t, c, 1, api.ErrQuota)
	reports(t, c, 5, 1, 0, true, api.OK)
	lends(t, c, 1, 6, 5)
	is(t, "Leave", c.Leave(1), api.OK)
	is(t, "Attach", c.Attach(1, 5), api.OK)
	lends(t, c, 1, 7, 10)
	record(t, c, 1, 15, 10, 0)
	record(t, c, 2, 15, 10, 0)
	record(t, c, 16, 15, 10, 0)
}

// TestReport: what is charged is no more lent; what was not used is left again by the last one.
func TestReport(t *testing.T) {
	c := coreWith(t, 10, 25)
	lends(t, c, 1, 1, 10)
	lends(t, c, 1, 2, 10)
	reports(t, c, 1, 1, 4, false, api.OK)
	record(t, c, 1, 5, 16, 4)
	reports(t, c, 2, 1, 0, false, api.OK)
	record(t, c, 1, 5, 16, 4)
	reports(t, c, 1, 2, 1, true, api.OK)
	record(t, c, 1, 10, 10, 5)
	reports(t, c, 2, 2, 10, false, api.OK)
	record(t, c, 1, 10, 0, 15)
	reports(t, c, 2, 3, 0, true, api.OK)
	record(t, c, 1, 10, 0, 15)
	lends(t, c, 1, 3, 10)
	reports(t, c, 3, 1, 10, true, api.OK)
	record(t, c, 1, 0, 0, 25)
	lendIs(t, c, 1, api.ErrQuota)
}

// TestReportAbsent: of a grant that never was, whatever else is wrong, and whether anybody joined.
func TestReportAbsent(t *testing.T) {
	c := newCore(t, 10)
	absent := func(grants ...int) {
		t.Helper()
		for _, grant := range append(grants, 0, -1, -2, 257, 1<<16+1, 1<<32, 1<<32+1, -1<<32+1, math.MaxInt, math.MinInt, math.MinInt+1) {
			reports(t, c, grant, 1, 0, false, api.ErrAbsent)
			reports(t, c, grant, 0, 0, true, api.ErrAbsent)
			reports(t, c, grant, 1, -1, false, api.ErrAbsent)
			reports(t, c, grant, 1, 11, true, api.ErrAbsent)
			reports(t, c, grant, 2, 5, false, api.ErrAbsent)
		}
	}
	absent(1, 2, 3)
	is(t, "Join", c.Join(1, 15), api.OK)
	is(t, "Attach", c.Attach(1, 5), api.OK)
	absent(1, 2, 3)
	lends(t, c, 1, 1, 10)
	absent(2, 3)
	lends(t, c, 1, 2, 5)
	lendIs(t, c, 1, api.ErrQuota)
	absent(3, 4)
	record(t, c, 1, 0, 15, 0)
	is(t, "Leave", c.Leave(1), api.OK)
	absent(3, 4)
}

// TestReportTurns: one behind the other from 1 on; one that was taken is there, whatever else it says now.
func TestReportTurns(t *testing.T) {
	c := coreWith(t, 10, 100)
	lends(t, c, 1, 1, 10)
	for last := range 5 {
		for turn := 1; turn <= last; turn++ {
			reports(t, c, 1, turn, 1, false, api.ErrThere)
			reports(t, c, 1, turn, 2, true, api.ErrThere)
			reports(t, c, 1, turn, -1, false, api.ErrThere)
			reports(t, c, 1, turn, 11, true, api.ErrThere)
		}
		for _, turn := range []int{0, -1, -2, last + 2, last + 3, 1<<32 + last + 1, -1<<32 + last + 1, math.MaxInt, math.MinInt, math.MinInt + 1} {
			reports(t, c, 1, turn, 1, false, api.ErrForm)
			reports(t, c, 1, turn, 0, true, api.ErrForm)
			reports(t, c, 1, turn, 11, false, api.ErrForm)
			reports(t, c, 1, turn, -1, true, api.ErrForm)
		}
		record(t, c, 1, 90, 10-last, last)
		reports(t, c, 1, last+1, 1, false, api.OK)
	}
}

// TestReportTurnsOfEachGrant: one grant's are not another's.
func TestReportTurnsOfEachGrant(t *testing.T) {
	c := coreWith(t, 10, 100)
	for grant := 1; grant <= 3; grant++ {
		lends(t, c, 1, grant, 10)
	}
	reports(t, c, 2, 1, 1, false, api.OK)
	reports(t, c, 2, 2, 2, false, api.OK)
	reports(t, c, 1, 2, 3, false, api.ErrForm)
	reports(t, c, 3, 3, 3, false, api.ErrForm)
	reports(t, c, 3, 1, 3, true, api.OK)
	reports(t, c, 1, 1, 4, false, api.OK)
	reports(t, c, 2, 3, 7, false, api.OK)
	record(t, c, 1, 77, 6, 17)
}

// TestReportBytes: from 0 to what the grant still has, though more is lent, or left.
func TestReportBytes(t *testing.T) {
	c := coreWith(t, 10, 100)
	lends(t, c, 1, 1, 10)
	lends(t, c, 1, 2, 10)
	wrong := func(turn, has int) {
		t.Helper()
		for _, bytes := range []int{-1, -2, -has, has + 1, 11, 20, 100, 1 << 32, 1<<32 + 1, -1<<32 + 1, math.MaxInt, math.MinInt, math.MinInt + 1} {
			if bytes >= 0 && bytes <= has {
				continue
			}
			reports(t, c, 1, turn, bytes, false, api.ErrQuota)
			reports(t, c, 1, turn, bytes, true, api.ErrQuota)
		}
	}
	wrong(1, 10)
	reports(t, c, 1, 1, 4, false, api.OK)
	wrong(2, 6)
	reports(t, c, 1, 2, 6, false, api.OK)
	wrong(3, 0)
	reports(t, c, 1, 3, 0, false, api.OK)
	wrong(4, 0)
	record(t, c, 1, 80, 10, 10)
	reports(t, c, 2, 1, 10, true, api.OK)
	record(t, c, 1, 80, 0, 20)
}

// TestReportOfTheLesserGrant: one of less than the unit has no more than it was lent.
func TestReportOfTheLesserGrant(t *testing.T) {
	c := coreWith(t, 10, 13)
	lends(t, c, 1, 1, 10)
	lends(t, c, 1, 2, 3)
	reports(t, c, 2, 1, 4, false, api.ErrQuota)
	reports(t, c, 2, 1, 3, false, api.OK)
	reports(t, c, 2, 2, 1, false, api.ErrQuota)
	record(t, c, 1, 0, 10, 3)
}

// closed fails unless a grant is, the last report of which had this turn.
func closed(t *testing.T, report func(turn, bytes int, final bool, want api.Errno), last int) {
	t.Helper()
	for turn := 1; turn <= last; turn++ {
		report(turn, 0, false, api.ErrThere)
		report(turn, 0, true, api.ErrThere)
		report(turn, -1, true, api.ErrThere)
	}
	for _, turn := range []int{-1, 0, last + 2, last + 3} {
		report(turn, 0, true, api.ErrForm)
		report(turn, 11, false, api.ErrForm)
	}
	for _, bytes := range []int{-1, 0, 1, 11} {
		report(last+1, bytes, false, api.ErrState)
		report(last+1, bytes, true, api.ErrState)
	}
}

// TestReportClosed: of a closed grant nothing is taken, but what came is known still.
func TestReportClosed(t *testing.T) {
	c := coreWith(t, 10, 100)
	of := func(grant int) func(turn, bytes int, final bool, want api.Errno) {
		return func(turn, bytes int, final bool, want api.Errno) {
			t.Helper()
			reports(t, c, grant, turn, bytes, final, want)
		}
	}
	for grant := 1; grant <= 4; grant++ {
		lends(t, c, 1, grant, 10)
	}
	reports(t, c, 1, 1, 2, false, api.OK)
	reports(t, c, 1, 2, 3, true, api.OK)
	reports(t, c, 2, 1, 10, true, api.OK)
	closed(t, of(1), 2)
	closed(t, of(2), 1)
	record(t, c, 1, 65, 20, 15)
	reports(t, c, 3, 1, 1, false, api.OK)
	is(t, "Leave", c.Leave(1), api.OK)
	record(t, c, 1, 84, 0, 16)
	closed(t, of(1), 2)
	closed(t, of(2), 1)
	closed(t, of(3), 1)
	closed(t, of(4), 0)
	is(t, "Attach", c.Attach(1, 5), api.OK)
	closed(t, of(3), 1)
	closed(t, of(4), 0)
	lends(t, c, 1, 5, 10)
	closed(t, of(4), 0)
	reports(t, c, 5, 1, 10, false, api.OK)
	record(t, c, 1, 74, 0, 26)
}

// TestReportWherever: who sleeps, or was handed on, is charged too; sleep and handovers close nothing.
func TestReportWherever(t *testing.T) {
	c := coreWith(t, 10, 100)
	lends(t, c, 1, 1, 10)
	lends(t, c, 1, 2, 10)
	is(t, "Hand", c.Hand(1, 5, 50), api.OK)
	record(t, c, 1, 80, 20, 0)
	reports(t, c, 1, 1, 1, false, api.OK)
	is(t, "Sleep", c.Sleep(1), api.OK)
	record(t, c, 1, 80, 19, 1)
	reports(t, c, 1, 2, 2, false, api.OK)
	reports(t, c, 2, 1, 2, true, api.OK)
	record(t, c, 1, 88, 7, 5)
	is(t, "Wake", c.Wake(1, 9), api.OK)
	record(t, c, 1, 88, 7, 5)
	reports(t, c, 1, 3, 3, true, api.OK)
	record(t, c, 1, 92, 0, 8)
}

// TestLeaveCloses: all grants of who leaves, awake or asleep, and nobody else's.
func TestLeaveCloses(t *testing.T) {
	for _, sleeps := range []bool{false, true} {
		c := coreWith(t, 10, 35)
		is(t, "Join", c.Join(2, 20), api.OK)
		is(t, "Attach", c.Attach(2, 5), api.OK)
		lends(t, c, 1, 1, 10)
		lends(t, c, 2, 2, 10)
		lends(t, c, 1, 3, 10)
		lends(t, c, 1, 4, 10)
		lends(t, c, 1, 5, 5)
		reports(t, c, 1, 1, 7, false, api.OK)
		reports(t, c, 3, 1, 9, true, api.OK)
		record(t, c, 1, 1, 18, 16)
		if sleeps {
			is(t, "Sleep", c.Sleep(1), api.OK)
		}
		is(t, "Leave", c.Leave(1), api.OK)
		record(t, c, 1, 19, 0, 16)
		record(t, c, 2, 10, 10, 0)
		reports(t, c, 2, 1, 4, false, api.OK)
		record(t, c, 2, 10, 6, 4)
		is(t, "Leave", c.Leave(1), api.ErrState)
		record(t, c, 1, 19, 0, 16)
		is(t, "Attach", c.Attach(1, 5), api.OK)
		lends(t, c, 1, 6, 10)
		lends(t, c, 1, 7, 9)
		lendIs(t, c, 1, api.ErrQuota)
	}
}

// TestRecordAsItIs: wherever somebody is, and asking changes nothing.
func TestRecordAsItIs(t *testing.T) {
	c := newCore(t, 10)
	is(t, "Join", c.Join(1, 20), api.OK)
	record(t, c, 1, 20, 0, 0)
	is(t, "Attach", c.Attach(1, 5), api.OK)
	record(t, c, 1, 20, 0, 0)
	lends(t, c, 1, 1, 10)
	record(t, c, 1, 10, 10, 0)
	is(t, "Sleep", c.Sleep(1), api.OK)
	record(t, c, 1, 10, 10, 0)
	record(t, c, 1, 10, 10, 0)
	is(t, "Leave", c.Leave(1), api.OK)
	record(t, c, 1, 20, 0, 0)
}
