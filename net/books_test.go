package net_test

import (
	"strings"
	"testing"

	"roamwave/net"
)

// TestQuota: a grant is of 100 bytes, or of what is left; the text must fit into it.
func TestQuota(t *testing.T) {
	n := net.New()
	does(t, n, "user 1 8", "user 2 150", "user 3 0")
	says(t, n, "send 1 nine byte", "error 11")
	looks(t, n, 1, 1, 0, 0, 8, 0, 0)
	says(t, n, "send 1 eight by", "ok")
	looks(t, n, 1, 1, 0, 1, 0, 8, 0)
	says(t, n, "send 1 x", "error 11")
	looks(t, n, 1, 1, 0, 1, 0, 8, 0)
	says(t, n, "send 2 "+strings.Repeat("x", 100), "ok")
	looks(t, n, 2, 1, 0, 1, 50, 100, 0)
	says(t, n, "send 2 "+strings.Repeat("x", 51), "error 11")
	says(t, n, "send 2 "+strings.Repeat("x", 100), "error 11")
	looks(t, n, 2, 1, 0, 1, 50, 100, 0)
	says(t, n, "send 2 "+strings.Repeat("y", 50), "ok")
	looks(t, n, 2, 1, 0, 2, 0, 150, 0)
	says(t, n, "send 2 z", "error 11")
	says(t, n, "send 3 x", "error 11")
	looks(t, n, 3, 1, 0, 0, 0, 0, 0)
	ticks(t, n, 20)
	told(t, n, 1, "eight by")
	told(t, n, 2, strings.Repeat("x", 100), strings.Repeat("y", 50))
	told(t, n, 3)
	looks(t, n, 1, 1, 1, 0, 0, 0, 8)
	looks(t, n, 2, 1, 2, 0, 0, 0, 150)
	says(t, n, "send 2 z", "error 11")
}

// TestChargedAsItIsTold: not as it is sent, and what a grant had more is left again.
func TestChargedAsItIsTold(t *testing.T) {
	n := netWith(t, 1, 2)
	does(t, n, "send 1 hello", "send 1 you", "send 2 there")
	looks(t, n, 1, 1, 0, 2, 9800, 200, 0)
	looks(t, n, 2, 1, 0, 1, 9900, 100, 0)
	does(t, n, "tick")
	looks(t, n, 1, 1, 1, 1, 9895, 100, 5)
	looks(t, n, 2, 1, 1, 0, 9995, 0, 5)
	does(t, n, "tick")
	looks(t, n, 1, 1, 2, 0, 9992, 0, 8)
	does(t, n, "send 2 x", "air 2 lost")
	ticks(t, n, 9)
	looks(t, n, 2, 1, 1, 1, 9895, 100, 5)
	looks(t, n, 1, 1, 2, 0, 9992, 0, 8)
}

// TestGrantsOfTwo: their data is told in another order than it was sent in, and each is charged its own.
func TestGrantsOfTwo(t *testing.T) {
	n := net.New()
	does(t, n, "user 1 130", "user 2 120")
	does(t, n, "send 1 one of twenty bytes.", "send 2 four", "send 2 "+strings.Repeat("y", 20), "send 1 "+strings.Repeat("x", 30))
	looks(t, n, 1, 1, 0, 2, 0, 130, 0)
	looks(t, n, 2, 1, 0, 2, 0, 120, 0)
	does(t, n, "tick")
	looks(t, n, 1, 1, 0, 2, 0, 130, 0)
	looks(t, n, 2, 1, 1, 1, 96, 20, 4)
	does(t, n, "tick", "tick")
	looks(t, n, 1, 1, 1, 1, 80, 30, 20)
	looks(t, n, 2, 1, 1, 1, 96, 20, 4)
	does(t, n, "tick", "tick", "tick")
	looks(t, n, 1, 1, 2, 0, 80, 0, 50)
	looks(t, n, 2, 1, 2, 0, 96, 0, 24)
}

// TestFull: with 64 that were not told. It is said ahead of what the core says.
func TestFull(t *testing.T) {
	n := net.New()
	does(t, n, "user 1 6400", "user 2 100")
	for i := range 64 {
		does(t, n, words("send", 1, i))
	}
	says(t, n, "send 1 x", "error 7")
	looks(t, n, 1, 1, 0, 64, 0, 6400, 0)
	does(t, n, "send 2 x", "tick")
	looks(t, n, 1, 1, 1, 63, 99, 6300, 1)
	says(t, n, "send 1 "+strings.Repeat("x", 100), "error 11")
	does(t, n, "send 1 "+strings.Repeat("x", 99))
	says(t, n, "send 1 x", "error 7")
	looks(t, n, 1, 1, 1, 64, 0, 6399, 1)
	ticks(t, n, 63)
	looks(t, n, 1, 1, 64, 1, 6400-118-99, 99, 118)
	ticks(t, n, 9)
	looks(t, n, 1, 1, 65, 0, 6400-118-99, 0, 217)
}

// TestFullOfWhatIsNotTold: a unit that has come does not wait any more, but it is not told, as those ahead of it are missing.
func TestFullOfWhatIsNotTold(t *testing.T) {
	for _, who := range []int{1, 2} {
		n := netWith(t, who)
		for i := range 64 {
			does(t, n, words("send", who, i))
		}
		// Two blocks are lost, so that the third one has another flag than the last that came.
		does(t, n, words("air", who, "lost"))
		ticks(t, n, 8)
		does(t, n, words("air", who, "clear"), "tick")
		looks(t, n, who, 1, 0, 63, 3600, 6400, 0)
		says(t, n, words("send", who, "x"), "error 7")
		tellsAt(t, n, who, 1)
		looks(t, n, who, 1, 1, 62, 3699, 6300, 1)
		does(t, n, words("send", who, "x"))
		looks(t, n, who, 1, 1, 63, 3599, 6400, 1)
		says(t, n, words("send", who, "y"), "error 7")
	}
}

// TestManySends: more than any layer has numbers, with handovers between.
func TestManySends(t *testing.T) {
	n := net.New()
	does(t, n, "user 1 999999999", "user 2 999999999")
	const many = 4500
	bytes := 0
	var want []string
	for i := range many {
		text := words(i)
		does(t, n, "send 1 "+text, "send 2 "+text)
		if i%700 == 699 {
			does(t, n, words("hand", 1, 1+i%100), words("hand", 2, 1+i%99))
		}
		ticks(t, n, 1)
		bytes += len(text)
		want = append(want, text)
	}
	told(t, n, 1, want...)
	told(t, n, 2, want...)
	looks(t, n, 1, 1+4199%100, many, 0, 999999999-bytes, 0, bytes)
	looks(t, n, 2, 1+4199%99, many, 0, 999999999-bytes, 0, bytes)
}
