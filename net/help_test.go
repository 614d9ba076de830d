package net_test

import (
	"strconv"
	"strings"
	"testing"

	"roamwave/net"
)

// source of numbers that are mixed, but always the same.
type source uint64

func (s *source) below(n int) int {
	*s = *s*6364136223846793005 + 1442695040888963407
	return int(uint64(*s)>>33) % n
}

// often tells true so many times of ten.
func (s *source) often(times int) bool { return s.below(10) < times }

// pick one of a list.
func pick[T any](s *source, l []T) T { return l[s.below(len(l))] }

// text of 1 to so many bytes, of any kind.
func (s *source) text(most int) string {
	b := make([]byte, 1+s.below(most))
	for i := range b {
		b[i] = byte(s.below(256))
	}
	return string(b)
}

// says fails unless a line is answered so; want is without the last byte 10.
func says(t *testing.T, n *net.Net, line, want string) {
	t.Helper()
	if got := n.Do(line); got != want+"\n" {
		t.Errorf("%q: %q, want %q", line, got, want+"\n")
	}
}

// does lines, each of which must be ok.
func does(t *testing.T, n *net.Net, lines ...string) {
	t.Helper()
	for _, line := range lines {
		says(t, n, line, "ok")
	}
}

// netWith these users, each with a quota of 10000.
func netWith(t *testing.T, users ...int) *net.Net {
	t.Helper()
	n := net.New()
	for _, who := range users {
		does(t, n, words("user", who, 10000))
	}
	return n
}

// words of a line, with one blank between.
func words(parts ...any) string {
	var l []string
	for _, p := range parts {
		switch p := p.(type) {
		case int:
			l = append(l, strconv.Itoa(p))
		case string:
			l = append(l, p)
		}
	}
	return strings.Join(l, " ")
}

// ticks so many times.
func ticks(t *testing.T, n *net.Net, times int) {
	t.Helper()
	for range times {
		does(t, n, "tick")
	}
}

// told fails unless a user was told these.
func told(t *testing.T, n *net.Net, who int, want ...string) {
	t.Helper()
	lines := ""
	for _, text := range want {
		lines += text + "\n"
	}
	says(t, n, words("told", who), lines+words(len(want), "told"))
}

// looks fails unless a user is so.
func looks(t *testing.T, n *net.Net, who, cell, told, waiting, left, lent, charged int) {
	t.Helper()
	says(t, n, words("look", who), words("user", who, "at", cell, "told", told, "waiting", waiting, "left", left, "lent", lent, "charged", charged))
}

// tellsAt fails unless the how manieth tick from now on is the one that tells a user something more.
func tellsAt(t *testing.T, n *net.Net, who, want int) {
	t.Helper()
	before := n.Do(words("told", who))
	for i := range want + 1 {
		if now := n.Do(words("told", who)); (now != before) != (i == want) {
			t.Errorf("behind %d ticks: %q, before %q, want something more at %d", i, now, before, want)
			return
		}
		if i < want {
			does(t, n, "tick")
		}
	}
}
