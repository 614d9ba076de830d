package core_test

import (
	"slices"
	"testing"

	"roamwave/api"
)

// spokenUser is somebody as P29 says it: away, awake or asleep.
type spokenUser struct {
	quota, cell int
	where       string
}

// spokenGrant as P30 says it.
type spokenGrant struct {
	who, has, last int
	closed         bool
}

// spoken does what P29 and P30 say, sentence by sentence. It keeps no records: they are reckoned from all grants and all reports that were taken.
type spoken struct {
	unit   int
	users  map[int]*spokenUser
	grants []*spokenGrant
	taken  []api.Usage
}

func isCell(cell int) bool { return 1 <= cell && cell <= 100 }

func (s *spoken) join(who, quota int) api.Errno {
	if who < 1 || who > 16 || quota < 0 || quota > 1000000000 {
		return api.ErrArg
	}
	if _, joined := s.users[who]; joined {
		return api.ErrThere
	}
	s.users[who] = &spokenUser{quota: quota, where: "away"}
	return api.OK
}

func (s *spoken) attach(who, cell int) api.Errno {
	u, joined := s.users[who]
	if !joined {
		return api.ErrUnknown
	}
	if !isCell(cell) {
		return api.ErrArg
	}
	if u.where != "away" {
		return api.ErrState
	}
	u.where, u.cell = "awake", cell
	return api.OK
}

func (s *spoken) leave(who int) api.Errno {
	u, joined := s.users[who]
	if !joined {
		return api.ErrUnknown
	}
	if u.where == "away" {
		return api.ErrState
	}
	for _, g := range s.grants {
		if g.who == who {
			g.closed = true
		}
	}
	u.where = "away"
	return api.OK
}

func (s *spoken) sleep(who int) api.Errno {
	u, joined := s.users[who]
	if !joined {
		return api.ErrUnknown
	}
	if u.where != "awake" {
		return api.ErrState
	}
	u.where = "asleep"
	return api.OK
}

func (s *spoken) wake(who, cell int) api.Errno {
	u, joined := s.users[who]
	if !joined {
		return api.ErrUnknown
	}
	if !isCell(cell) {
		return api.ErrArg
	}
	if u.where != "asleep" {
		return api.ErrState
	}
	u.where, u.cell = "awake", cell
	return api.OK
}

func (s *spoken) hand(who, from, to int) api.Errno {
	u, joined := s.users[who]
	if !joined {
		return api.ErrUnknown
	}
	if !isCell(from) || !isCell(to) {
		return api.ErrArg
	}
	if u.where != "awake" || u.cell != from {
		return api.ErrState
	}
	u.cell = to
	return api.OK
}

// page goes through the areas, one behind the other.
func (s *spoken) page(who int) ([]int, api.Errno) {
	u, joined := s.users[who]
	if !joined {
		return nil, api.ErrUnknown
	}
	switch u.where {
	case "away":
		return nil, api.ErrState
	case "awake":
		return []int{u.cell}, api.OK
	}
	var area []int
	for cell := 1; cell <= 100; cell++ {
		area = append(area, cell)
		if cell%8 == 0 || cell == 100 {
			if slices.Contains(area, u.cell) {
				break
			}
			area = nil
		}
	}
	return area, api.OK
}

func (s *spoken) record(who int) (api.Record, api.Errno) {
	u, joined := s.users[who]
	if !joined {
		return api.Record{}, api.ErrUnknown
	}
	var r api.Record
	for _, g := range s.grants {
		if g.who == who && !g.closed {
			r.Lent += g.has
		}
	}
	for _, usage := range s.taken {
		if s.grants[usage.Grant-1].who == who {
			r.Charged += usage.Bytes
		}
	}
	r.Left = u.quota - r.Lent - r.Charged
	return r, api.OK
}

func (s *spoken) lend(who int) (grant, bytes int, err api.Errno) {
	u, joined := s.users[who]
	if !joined {
		return 0, 0, api.ErrUnknown
	}
	if u.where != "awake" {
		return 0, 0, api.ErrState
	}
	r, _ := s.record(who)
	if r.Left == 0 {
		return 0, 0, api.ErrQuota
	}
	bytes = min(s.unit, r.Left)
	s.grants = append(s.grants, &spokenGrant{who: who, has: bytes})
	return len(s.grants), bytes, api.OK
}

func (s *spoken) report(u api.Usage) api.Errno {
	if u.Grant < 1 || u.Grant > len(s.grants) {
		return api.ErrAbsent
	}
	g := s.grants[u.Grant-1]
	if 1 <= u.Turn && u.Turn <= g.last {
		return api.ErrThere
	}
	if u.Turn != g.last+1 {
		return api.ErrForm
	}
	if g.closed {
		return api.ErrState
	}
	if u.Bytes < 0 || u.Bytes > g.has {
		return api.ErrQuota
	}
	g.last = u.Turn
	g.has -= u.Bytes
	g.closed = u.Final
	s.taken = append(s.taken, u)
	return api.OK
}

// who, mostly one of a few.
func (s *source) who() int {
	switch s.below(12) {
	case 0:
		return pick(s, wrongUsers)
	case 1:
		return 1 + s.below(16)
	}
	return pick(s, []int{1, 2, 16})
}

// cell, mostly one of a few.
func (s *source) cell() int {
	switch s.below(8) {
	case 0:
		return pick(s, wrongCells)
	case 1:
		return 1 + s.below(100)
	}
	return pick(s, []int{1, 8, 9, 97, 100})
}

// usage, mostly of a grant that was, and often one that can be taken.
func (s *source) usage(of *spoken) api.Usage {
	u := api.Usage{Grant: len(of.grants) + 1 - s.below(8), Turn: s.below(5) - 1, Bytes: s.below(of.unit+4) - 2, Final: s.often(2)}
	if s.often(3) {
		u.Grant = 1 + s.below(len(of.grants)+1)
	}
	if u.Grant < 1 || u.Grant > len(of.grants) {
		return u
	}
	g := of.grants[u.Grant-1]
	if s.often(8) {
		u.Turn = g.last + 1
	}
	if s.often(7) {
		u.Bytes = s.below(g.has + 1)
	}
	return u
}

// TestAsSpoken: whatever is done, by whom, and where.
func TestAsSpoken(t *testing.T) {
	for turn := range 120 {
		from := source(turn)
		unit := []int{1, 3, 10, 1000000}[turn%4]
		c, s := newCore(t, unit), &spoken{unit: unit, users: map[int]*spokenUser{}}
		for range 400 {
			who, cell := from.who(), from.cell()
			switch from.below(12) {
			case 0:
				quota := pick(&from, []int{0, 1, 9, 30, 30, 100, 1000000000, 1000000001, -1})
				is(t, "Join", c.Join(who, quota), s.join(who, quota))
			case 1, 2:
				is(t, "Attach", c.Attach(who, cell), s.attach(who, cell))
			case 3:
				if from.often(3) {
					is(t, "Leave", c.Leave(who), s.leave(who))
				}
			case 4:
				is(t, "Sleep", c.Sleep(who), s.sleep(who))
			case 5, 6:
				is(t, "Wake", c.Wake(who, cell), s.wake(who, cell))
			case 7:
				at := from.cell()
				if u, joined := s.users[who]; joined && from.often(7) {
					at = u.cell
				}
				is(t, "Hand", c.Hand(who, at, cell), s.hand(who, at, cell))
			case 8, 9:
				g, n, err := c.Lend(who)
				if wantG, wantN, want := s.lend(who); g != wantG || n != wantN || err != want {
					t.Fatalf("turn %d: Lend(%d): %d, %d, %v, want %d, %d, %v", turn, who, g, n, err, wantG, wantN, want)
				}
			default:
				u := from.usage(s)
				reports(t, c, u.Grant, u.Turn, u.Bytes, u.Final, s.report(u))
			}
			asSpoken(t, c.Page, s.page, who, slices.Equal[[]int])
			asSpoken(t, c.Record, s.record, who, func(a, b api.Record) bool { return a == b })
			if t.Failed() {
				t.Fatalf("turn %d", turn)
			}
		}
	}
}

// asSpoken fails unless both answer the same.
func asSpoken[T any](t *testing.T, call, spoken func(int) (T, api.Errno), who int, same func(a, b T) bool) {
	t.Helper()
	x, err := call(who)
	if want, wantErr := spoken(who); !same(x, want) || err != wantErr {
		t.Errorf("of %d: %+v, %v, want %+v, %v", who, x, err, want, wantErr)
	}
}
