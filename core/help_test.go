package core_test

import (
	"math"
	"slices"
	"testing"

	"roamwave/api"
	"roamwave/core"
)

// wrongUsers are numbers that nobody can have.
var wrongUsers = []int{0, -1, -2, -16, 17, 18, 32, 100, 257, 1<<16 + 1, 1 << 32, 1<<32 + 1, -1<<32 + 1, math.MaxInt, math.MinInt, math.MinInt + 1}

// wrongCells are no cells.
var wrongCells = []int{0, -1, -7, -8, -100, 101, 102, 104, 105, 200, 256 + 5, 1<<16 + 5, 1 << 32, 1<<32 + 5, -1<<32 + 5, math.MaxInt, math.MinInt, math.MinInt + 1}

// source of numbers that are mixed, but always the same.
type source uint64

func (s *source) below(n int) int {
	*s = *s*6364136223846793005 + 1442695040888963407
	return int(uint64(*s)>>33) % n
}

// often tells true so many times of ten.
func (s *source) often(times int) bool { return s.below(10) < times }

// pick one of a list.
func pick[T any](s *source, l []T) T { return l[s.below(len(l))] }

// newCore of a unit that may be.
func newCore(t *testing.T, unit int) *core.Core {
	t.Helper()
	c, err := core.New(unit)
	if err != api.OK || c == nil {
		t.Fatalf("New(%d): %v, %v", unit, c, err)
	}
	return c
}

// coreWith a user 1 of this quota, who is awake at the cell 5.
func coreWith(t *testing.T, unit, quota int) *core.Core {
	t.Helper()
	c := newCore(t, unit)
	is(t, "Join", c.Join(1, quota), api.OK)
	is(t, "Attach", c.Attach(1, 5), api.OK)
	return c
}

// is fails unless a call tells this.
func is(t *testing.T, call string, err, want api.Errno) {
	t.Helper()
	if err != want {
		t.Errorf("%s: %v, want %v", call, err, want)
	}
}

// pages fails unless somebody is sought at these cells.
func pages(t *testing.T, c *core.Core, who int, want ...int) {
	t.Helper()
	if l, err := c.Page(who); !slices.Equal(l, want) || err != api.OK {
		t.Errorf("Page(%d): %v, %v, want %v", who, l, err, want)
	}
}

// pageIs fails unless a Page tells an error, and nothing else.
func pageIs(t *testing.T, c *core.Core, who int, want api.Errno) {
	t.Helper()
	if l, err := c.Page(who); l != nil || err != want {
		t.Errorf("Page(%d): %v, %v, want %v", who, l, err, want)
	}
}

// lends fails unless a Lend answers this grant, of so many bytes.
func lends(t *testing.T, c *core.Core, who, grant, bytes int) {
	t.Helper()
	if g, n, err := c.Lend(who); g != grant || n != bytes || err != api.OK {
		t.Errorf("Lend(%d): %d, %d, %v, want %d, %d", who, g, n, err, grant, bytes)
	}
}

// lendIs fails unless a Lend tells an error, and nothing else.
func lendIs(t *testing.T, c *core.Core, who int, want api.Errno) {
	t.Helper()
	if g, n, err := c.Lend(who); g != 0 || n != 0 || err != want {
		t.Errorf("Lend(%d): %d, %d, %v, want %v", who, g, n, err, want)
	}
}

// reports fails unless a Report tells this.
func reports(t *testing.T, c *core.Core, grant, turn, bytes int, final bool, want api.Errno) {
	t.Helper()
	u := api.Usage{Grant: grant, Turn: turn, Bytes: bytes, Final: final}
	if err := c.Report(u); err != want {
		t.Errorf("Report(%+v): %v, want %v", u, err, want)
	}
}

// record fails unless these are somebody's numbers.
func record(t *testing.T, c *core.Core, who, left, lent, charged int) {
	t.Helper()
	want := api.Record{Left: left, Lent: lent, Charged: charged}
	if r, err := c.Record(who); r != want || err != api.OK {
		t.Errorf("Record(%d): %+v, %v, want %+v", who, r, err, want)
	}
}

// recordIs fails unless a Record tells an error, and nothing else.
func recordIs(t *testing.T, c *core.Core, who int, want api.Errno) {
	t.Helper()
	if r, err := c.Record(who); r != (api.Record{}) || err != want {
		t.Errorf("Record(%d): %+v, %v, want %v", who, r, err, want)
	}
}
