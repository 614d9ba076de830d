package core

import "roamwave/api"

// grant that was lent.
type grant struct {
	of *user
	// turn of the last report that was taken.
	turn int
}

// Lend: P30.
func (c *Core) Lend(who int) (grant, bytes int, err api.Errno) {
	u, err := c.ask(who, is(awake))
	if err != api.OK {
		return 0, 0, err
	}
	if u.Left == 0 {
		return 0, 0, api.ErrQuota
	}
	number, bytes := c.number(u), min(c.unit, u.Left)
	u.Left -= bytes
	u.Lent += bytes
	u.open[number] = bytes
	return number, bytes, api.OK
}

// number of a new grant.
func (c *Core) number(of *user) int {
	c.grants = append(c.grants, grant{of: of})
	return len(c.grants)
}

// Report: P30.
func (c *Core) Report(u api.Usage) api.Errno {
	if u.Grant < 1 || u.Grant > len(c.grants) {
		return api.ErrAbsent
	}
	g := &c.grants[u.Grant-1]
	if err := g.check(u); err != api.OK {
		return err
	}
	g.turn = u.Turn
	g.of.charge(u)
	if u.Final {
		g.of.close(u.Grant)
	}
	return api.OK
}

// check answers the error of a report of this grant.
func (g *grant) check(u api.Usage) api.Errno {
	if u.Turn >= 1 && u.Turn <= g.turn {
		return api.ErrThere
	}
	if u.Turn != g.turn+1 {
		return api.ErrForm
	}
	has, open := g.of.open[u.Grant]
	if !open {
		return api.ErrState
	}
	if u.Bytes < 0 || u.Bytes > has {
		return api.ErrQuota
	}
	return api.OK
}

// charge what is reported of an open grant.
func (u *user) charge(of api.Usage) {
	u.open[of.Grant] -= of.Bytes
	u.Lent -= of.Bytes
	u.Charged += of.Bytes
}

// close an open grant.
func (u *user) close(number int) {
	u.giveBack(u.open[number])
	delete(u.open, number)
}

// closeAll grants that are open. They are not gone through: what is lent is what they have together. The map is a new one, as an old one keeps the room of all that ever were in it.
func (u *user) closeAll() {
	u.giveBack(u.Lent)
	u.open = map[int]int{}
}

// giveBack what a grant has that is closed.
func (u *user) giveBack(bytes int) {
	u.Lent -= bytes
	u.Left += bytes
}

// Record: P30.
func (c *Core) Record(who int) (api.Record, api.Errno) {
	u, err := c.find(who)
	if err != api.OK {
		return api.Record{}, err
	}
	return u.Record, api.OK
}
