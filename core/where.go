package core

import "roamwave/api"

const (
	// cells are numbered from 1 to this.
	cells = 100
	// areaCells are the cells of an area; the last area has fewer.
	areaCells = 8
)

// state of somebody.
type state int

const (
	away state = iota
	awake
	asleep
)

// place where somebody is.
type place struct {
	state state
	// cell is 0 of who is away.
	cell int
}

// question about a place: whether who is there may do something.
type question func(place) bool

// is asks whether somebody is in a state, wherever.
func is(s state) question {
	return func(p place) bool { return p.state == s }
}

// isNot asks the opposite.
func isNot(s state) question {
	return func(p place) bool { return p.state != s }
}

// isAt asks whether somebody is awake at a cell.
func isAt(cell int) question {
	return func(p place) bool { return p == place{awake, cell} }
}

// checkCells answers the error of cells.
func checkCells(list []int) api.Errno {
	for _, cell := range list {
		if cell < 1 || cell > cells {
			return api.ErrArg
		}
	}
	return api.OK
}

// ask finds who joined and is where the question wants it; the cells that the call was given come ahead of it.
func (c *Core) ask(who int, where question, given ...int) (*user, api.Errno) {
	u, err := c.find(who)
	if err != api.OK {
		return nil, err
	}
	if err := checkCells(given); err != api.OK {
		return nil, err
	}
	if !where(u.place) {
		return nil, api.ErrState
	}
	return u, api.OK
}

// Attach: P29.
func (c *Core) Attach(who, cell int) api.Errno {
	u, err := c.ask(who, is(away), cell)
	if err != api.OK {
		return err
	}
	u.place = place{awake, cell}
	return api.OK
}

// Leave: P29.
func (c *Core) Leave(who int) api.Errno {
	u, err := c.ask(who, isNot(away))
	if err != api.OK {
		return err
	}
	u.closeAll()
	u.place = place{}
	return api.OK
}

// Sleep: P29.
func (c *Core) Sleep(who int) api.Errno {
	u, err := c.ask(who, is(awake))
	if err != api.OK {
		return err
	}
	u.state = asleep
	return api.OK
}

// Wake: P29.
func (c *Core) Wake(who, cell int) api.Errno {
	u, err := c.ask(who, is(asleep), cell)
	if err != api.OK {
		return err
	}
	u.place = place{awake, cell}
	return api.OK
}

// Hand: P29.
func (c *Core) Hand(who, from, to int) api.Errno {
	u, err := c.ask(who, isAt(from), from, to)
	if err != api.OK {
		return err
	}
	u.cell = to
	return api.OK
}

// Page: P29.
func (c *Core) Page(who int) ([]int, api.Errno) {
	u, err := c.ask(who, isNot(away))
	if err != api.OK {
		return nil, err
	}
	if u.state == awake {
		return []int{u.cell}, api.OK
	}
	return areaOf(u.cell), api.OK
}

// areaOf a cell: all cells of it, rising.
func areaOf(cell int) []int {
	first := cell - (cell-1)%areaCells
	var area []int
	for cell := first; cell < first+areaCells && cell <= cells; cell++ {
		area = append(area, cell)
	}
	return area
}
