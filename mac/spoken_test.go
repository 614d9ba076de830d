package mac_test

import (
	"slices"
	"testing"

	"roamwave/api"
	"roamwave/mac"
)

// spokenSplit looks for items of which a text is made, as the chapter spells what is joined: it tries each channel and each length at each place.
func spokenSplit(s string) ([]api.Item, bool) {
	if s == "" {
		return nil, true
	}
	if s[0] == 63 {
		for _, x := range []byte(s[1:]) {
			if x != 0 {
				return nil, false
			}
		}
		return nil, true
	}
	for channel := 1; channel <= 32; channel++ {
		for n := 0; n <= 1500 && 3+n <= len(s); n++ {
			if int(s[0]) != channel || int(s[1]) != n/256 || int(s[2]) != n%256 {
				continue
			}
			rest, ok := spokenSplit(s[3+n:])
			return append([]api.Item{{Channel: channel, Data: s[3 : 3+n]}}, rest...), ok
		}
	}
	return nil, false
}

// TestSplitOfAllTexts: all short texts of some bytes are split as the chapter says.
func TestSplitOfAllTexts(t *testing.T) {
	some := []byte{0, 1, 2, 32, 33, 63}
	texts := []string{""}
	for range 6 {
		var more []string
		for _, s := range texts {
			want, ok := spokenSplit(s)
			if ok {
				splits(t, s, want)
			} else {
				splitIsNone(t, "as the chapter says", s)
			}
			for _, x := range some {
				more = append(more, s+string([]byte{x}))
			}
		}
		texts = more
	}
}

// spokenShares are as the chapter tells of them: bytes are given away one by one.
type spokenShares struct {
	channels []api.Channel
	levels   map[int]int
}

func (s *spokenShares) tick() {
	for _, c := range s.channels {
		s.levels[c.ID] += c.Rate
		if s.levels[c.ID] > c.Depth {
			s.levels[c.ID] = c.Depth
		}
	}
}

// round goes by Prio and ID; in the first one a level must be above 0 for each byte.
func (s *spokenShares) round(first bool, waits, given map[int]int, left int) int {
	for prio := 0; prio <= 100; prio++ {
		for id := 1; id <= 32; id++ {
			i := slices.IndexFunc(s.channels, func(c api.Channel) bool { return c.ID == id && c.Prio == prio })
			for i >= 0 && left > 0 && waits[id] > 0 && (!first || s.levels[id] > 0) {
				left--
				waits[id]--
				given[id]++
				s.levels[id]--
			}
		}
	}
	return left
}

func (s *spokenShares) grant(backlog []int, bytes int) []int {
	waits, given := map[int]int{}, map[int]int{}
	for i, c := range s.channels {
		waits[c.ID] = backlog[i]
	}
	left := s.round(true, waits, given, bytes)
	s.round(false, waits, given, left)
	var all []int
	for _, c := range s.channels {
		all = append(all, given[c.ID])
	}
	return all
}

// agree fails unless all levels are as they are wanted.
func agree(t *testing.T, s *mac.Shares, want *spokenShares) {
	t.Helper()
	for id := -1; id <= 34; id++ {
		if slices.ContainsFunc(want.channels, func(c api.Channel) bool { return c.ID == id }) {
			level(t, s, id, want.levels[id])
		} else {
			levelIsAbsent(t, s, id)
		}
	}
}

// TestSharesAsSpoken: whatever is done with shares, they answer as the chapter says.
func TestSharesAsSpoken(t *testing.T) {
	var from source = 3
	for turn := range 250 {
		most := []int{3, 20, 200}[turn%3]
		want := &spokenShares{channels: from.channels(turn%33, most, 3*most), levels: map[int]int{}}
		s := shares(t, want.channels...)
		for range 30 {
			if from.below(3) == 0 {
				s.Tick()
				want.tick()
			} else {
				backlog := make([]int, len(want.channels))
				for i := range backlog {
					backlog[i] = from.below(2) * from.below(3*most)
				}
				bytes := from.below(1 + from.below(1+most*len(backlog)))
				grants(t, s, backlog, bytes, want.grant(backlog, bytes)...)
			}
			agree(t, s, want)
			if t.Failed() {
				return
			}
		}
	}
}
