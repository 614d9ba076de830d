package core_test

import (
	"testing"

	"roamwave/api"
	"roamwave/core"
)

// quotaIs fails unless what is left, lent and charged is this together, and none of it below 0.
func quotaIs(t *testing.T, c *core.Core, who, quota int) {
	t.Helper()
	r, err := c.Record(who)
	if err != api.OK || r.Left < 0 || r.Lent < 0 || r.Charged < 0 || r.Left+r.Lent+r.Charged != quota {
		t.Fatalf("Record(%d): %+v, %v, want %d together", who, r, err, quota)
	}
}

// step lends, reports, comes and goes, one of these; what is charged by it is told.
func step(from *source, c *core.Core, who, grants, unit int) (lent bool, charged api.Usage) {
	switch from.below(9) {
	case 0:
		c.Attach(who, 1+from.below(100))
	case 1:
		if from.often(2) {
			c.Leave(who)
		}
	case 2:
		c.Sleep(who)
	case 3:
		c.Wake(who, 1+from.below(100))
	case 4, 5:
		_, _, err := c.Lend(who)
		return err == api.OK, api.Usage{}
	default:
		u := api.Usage{Grant: 1 + from.below(grants+1), Turn: 1 + from.below(4), Bytes: from.below(unit + 1), Final: from.often(3)}
		if c.Report(u) == api.OK {
			return false, u
		}
	}
	return false, api.Usage{}
}

// TestBooks: what is left, lent and charged is always the quota together, and what is charged is the bytes of the reports that were taken.
func TestBooks(t *testing.T) {
	const users, unit = 4, 10
	for turn := range 60 {
		from := source(turn)
		c := newCore(t, unit)
		var quotas, charged [users + 1]int
		for who := 1; who <= users; who++ {
			quotas[who] = from.below(200)
			is(t, "Join", c.Join(who, quotas[who]), api.OK)
		}
		owners := []int{0}
		for range 600 {
			who := 1 + from.below(users)
			lent, usage := step(&from, c, who, len(owners)-1, unit)
			if lent {
				owners = append(owners, who)
			}
			charged[owners[usage.Grant]] += usage.Bytes
			for who := 1; who <= users; who++ {
				quotaIs(t, c, who, quotas[who])
				if r, _ := c.Record(who); r.Charged != charged[who] {
					t.Fatalf("turn %d: Record(%d): %+v, want %d charged", turn, who, r, charged[who])
				}
			}
		}
	}
}

// TestChargedOnce: each report comes several times, also behind the last one and when who it was of left.
func TestChargedOnce(t *testing.T) {
	var from source = 5
	c := coreWith(t, 50, 1000)
	var sent []api.Usage
	charged := 0
	for grant := 1; grant <= 8; grant++ {
		lends(t, c, 1, grant, 50)
		for turn := 1; turn <= 4; turn++ {
			u := api.Usage{Grant: grant, Turn: turn, Bytes: from.below(13), Final: turn == 4 && grant%2 == 0}
			is(t, "Report", c.Report(u), api.OK)
			sent = append(sent, u)
			charged += u.Bytes
			for range 3 {
				is(t, "Report that came", c.Report(pick(&from, sent)), api.ErrThere)
			}
		}
	}
	for range 2 {
		for _, u := range sent {
			is(t, "Report that came", c.Report(u), api.ErrThere)
		}
		if r, err := c.Record(1); r.Charged != charged || err != api.OK {
			t.Errorf("Record: %+v, %v, want %d charged", r, err, charged)
		}
		c.Leave(1)
	}
	record(t, c, 1, 1000-charged, 0, charged)
}

// TestNoByteIsKeptBack: whoever comes, lends and leaves, the whole quota can be lent and charged in the end.
func TestNoByteIsKeptBack(t *testing.T) {
	var from source = 6
	c := newCore(t, 7)
	is(t, "Join", c.Join(1, 500), api.OK)
	grants, charged := 0, 0
	for charged < 500 {
		is(t, "Attach", c.Attach(1, 1), api.OK)
		for range 1 + from.below(100) {
			g, n, err := c.Lend(1)
			if err != api.OK {
				break
			}
			grants++
			used := from.below(n + 1)
			reports(t, c, g, 1, used, from.often(5), api.OK)
			charged += used
		}
		is(t, "Leave", c.Leave(1), api.OK)
		record(t, c, 1, 500-charged, 0, charged)
		if t.Failed() {
			t.Fatalf("%d grants", grants)
		}
	}
	is(t, "Attach", c.Attach(1, 1), api.OK)
	lendIs(t, c, 1, api.ErrQuota)
}

// TestManyGrants: who comes and goes a million times, with as many grants behind it. (If each Leave went through all of them, this would not end in time.)
func TestManyGrants(t *testing.T) {
	const many = 1000000
	c := coreWith(t, 1, 1000000000)
	is(t, "Join", c.Join(2, 1000000000), api.OK)
	is(t, "Attach", c.Attach(2, 1), api.OK)
	for i := range many {
		lends(t, c, 1+i%2, i+1, 1)
	}
	for range many {
		c.Leave(1)
		c.Attach(1, 5)
		c.Sleep(2)
		c.Wake(2, 7)
	}
	record(t, c, 1, 1000000000, 0, 0)
	record(t, c, 2, 1000000000-many/2, many/2, 0)
	reports(t, c, many, 1, 1, false, api.OK)
	reports(t, c, many-1, 1, 1, false, api.ErrState)
}
