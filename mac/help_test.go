package mac_test

import (
	"math"
	"slices"
	"strings"
	"testing"

	"roamwave/api"
	"roamwave/mac"
)

// wrongNumbers are of no use anywhere in this package.
var wrongNumbers = []int{-1, -2, -32, -63, -65535, 1000001, 1000002, 1 << 20, 1 << 31, 1 << 32, 1<<32 + 1, 1<<32 + 2, -1 << 32, 1 << 40,
	math.MaxInt32, math.MinInt32, math.MaxInt, math.MaxInt - 1, math.MinInt, math.MinInt + 1}

// wrongIDs are no channels.
var wrongIDs = append([]int{0, 33, 34, 63, 64, 255, 256, 257, 258, 65537}, wrongNumbers...)

// wrongSizes are none of a joined text.
var wrongSizes = append([]int{65536, 65537, 100000, 1000000}, wrongNumbers...)

// source of numbers that are mixed, but always the same.
type source uint64

func (s *source) below(n int) int {
	*s = *s*6364136223846793005 + 1442695040888963407
	return int(uint64(*s)>>33) % n
}

func (s *source) data(n int) string {
	d := make([]byte, n)
	for i := range d {
		d[i] = byte(s.below(256))
	}
	return string(d)
}

// items, so many, of at most so many bytes each.
func (s *source) items(n, most int) []api.Item {
	l := make([]api.Item, n)
	for i := range l {
		l[i] = api.Item{Channel: 1 + s.below(32), Data: s.data(s.below(most + 1))}
	}
	return l
}

// channels, so many, with IDs that are mixed, none twice; few Prios, so that many have the same one.
func (s *source) channels(n, rate, depth int) []api.Channel {
	l := make([]api.Channel, 32)
	for i := range l {
		l[i] = api.Channel{ID: i + 1, Prio: s.below(4), Rate: s.below(rate + 1), Depth: s.below(depth + 1)}
		j := s.below(i + 1)
		l[i], l[j] = l[j], l[i]
	}
	return l[:n:n]
}

// long text of so many bytes, each the same.
func long(n int) string { return strings.Repeat("x", n) }

// need is how many bytes items come to.
func need(l []api.Item) int {
	n := 0
	for _, x := range l {
		n += 3 + len(x.Data)
	}
	return n
}

// join what may be joined.
func join(t *testing.T, l []api.Item, size int) string {
	t.Helper()
	s, err := mac.Join(l, size)
	if err != api.OK {
		t.Fatalf("Join of %d items to %d: %v", len(l), size, err)
	}
	return s
}

// joins fails unless Join answers the text that is wanted.
func joins(t *testing.T, l []api.Item, size int, want string) {
	t.Helper()
	if s, err := mac.Join(l, size); s != want || err != api.OK {
		t.Errorf("Join of %d items to %d: %.60q, %v, want %.60q", len(l), size, s, err, want)
	}
}

// joinIs fails unless Join tells an error, and nothing else.
func joinIs(t *testing.T, what string, l []api.Item, size int, want api.Errno) {
	t.Helper()
	if s, err := mac.Join(l, size); s != "" || err != want {
		t.Errorf("%s: Join to %d: %.60q, %v, want %v", what, size, s, err, want)
	}
}

// splits fails unless Split answers the items that are wanted.
func splits(t *testing.T, s string, want []api.Item) {
	t.Helper()
	if l, err := mac.Split(s); !slices.Equal(l, want) || err != api.OK {
		t.Errorf("Split of %.60q (%d bytes): %d items, %v, want %d items", s, len(s), len(l), err, len(want))
	}
}

// splitIsNone fails unless Split refuses a text, and tells nothing else.
func splitIsNone(t *testing.T, what, s string) {
	t.Helper()
	if l, err := mac.Split(s); l != nil || err != api.ErrForm {
		t.Errorf("%s: Split of %.60q (%d bytes): %d items, %v, want %v", what, s, len(s), len(l), err, api.ErrForm)
	}
}

// shares of channels that may be.
func shares(t *testing.T, l ...api.Channel) *mac.Shares {
	t.Helper()
	s, err := mac.New(l)
	if err != api.OK || s == nil {
		t.Fatalf("New of %+v: %v, %v", l, s, err)
	}
	return s
}

// newIs fails unless New refuses channels, and gives nothing.
func newIs(t *testing.T, what string, l []api.Channel) {
	t.Helper()
	if s, err := mac.New(l); s != nil || err != api.ErrArg {
		t.Errorf("%s: New: %v, %v, want %v", what, s, err, api.ErrArg)
	}
}

// ticks, so many.
func ticks(s *mac.Shares, n int) {
	for range n {
		s.Tick()
	}
}

// level fails unless a channel's level is the one that is wanted.
func level(t *testing.T, s *mac.Shares, id, want int) {
	t.Helper()
	if n, err := s.Level(id); n != want || err != api.OK {
		t.Errorf("Level(%d): %d, %v, want %d", id, n, err, want)
	}
}

// levelIsAbsent fails unless there is no such channel.
func levelIsAbsent(t *testing.T, s *mac.Shares, id int) {
	t.Helper()
	if n, err := s.Level(id); n != 0 || err != api.ErrAbsent {
		t.Errorf("Level(%d): %d, %v, want %v", id, n, err, api.ErrAbsent)
	}
}

// grants fails unless each is given what is wanted.
func grants(t *testing.T, s *mac.Shares, backlog []int, bytes int, want ...int) {
	t.Helper()
	if g, err := s.Grant(backlog, bytes); !slices.Equal(g, want) || err != api.OK {
		t.Errorf("Grant of %v, %d: %v, %v, want %v", backlog, bytes, g, err, want)
	}
}

// grantIs fails unless Grant refuses what it is handed, and gives nothing.
func grantIs(t *testing.T, what string, s *mac.Shares, backlog []int, bytes int) {
	t.Helper()
	if g, err := s.Grant(backlog, bytes); g != nil || err != api.ErrArg {
		t.Errorf("%s: Grant of %d: %v, %v, want %v", what, bytes, g, err, api.ErrArg)
	}
}
