package net_test

import (
	"testing"
)

// TestHand: to any cell, the same one too; what is told stays.
func TestHand(t *testing.T) {
	n := netWith(t, 1, 2)
	for _, cell := range []int{9, 9, 100, 1, 1, 99} {
		does(t, n, words("hand", 1, cell))
		looks(t, n, 1, cell, 0, 0, 10000, 0, 0)
		looks(t, n, 2, 1, 0, 0, 10000, 0, 0)
	}
	for _, cell := range []int{0, 101, 102, 256 + 9, 999999999} {
		says(t, n, words("hand", 1, cell), "error 1")
		looks(t, n, 1, 99, 0, 0, 10000, 0, 0)
	}
	does(t, n, "send 1 a", "tick", "hand 1 5")
	looks(t, n, 1, 5, 1, 0, 9999, 0, 1)
	does(t, n, "send 1 b", "tick")
	told(t, n, 1, "a", "b")
}

// TestHandOfWhatWaits: all that was not told is sent again, in order, and nothing else.
func TestHandOfWhatWaits(t *testing.T) {
	for _, who := range []int{1, 2} {
		for before := range 12 {
			n := netWith(t, who)
			// Of 13, 12 and 25 bytes: two pieces, one, and three; then one again.
			texts := []string{"eight by", "seven b", "more than that would.", "x"}
			for _, text := range texts {
				does(t, n, words("send", who, text))
			}
			done := 0
			for i, at := range []int{2, 3, 6, 7} {
				if before >= at {
					done = i + 1
				}
			}
			ticks(t, n, before)
			told(t, n, who, texts[:done]...)
			does(t, n, words("hand", who, 7))
			told(t, n, who, texts[:done]...)
			lent, charged := 100*(4-done), 0
			for _, text := range texts[:done] {
				charged += len(text)
			}
			looks(t, n, who, 7, done, 4-done, 10000-lent-charged, lent, charged)
			ticks(t, n, 7)
			told(t, n, who, texts...)
			ticks(t, n, 7)
			told(t, n, who, texts...)
			looks(t, n, who, 7, 4, 0, 10000-37, 0, 37)
		}
	}
}

// TestHandIsRefused: then nothing is sent anew.
func TestHandIsRefused(t *testing.T) {
	for _, who := range []int{1, 2} {
		n := netWith(t, who)
		does(t, n, words("send", who, "more than that would."), "tick", "tick")
		says(t, n, words("hand", who, 0), "error 1")
		says(t, n, words("hand", who, 101), "error 1")
		tellsAt(t, n, who, 1)
		told(t, n, who, "more than that would.")
	}
}

// TestHandOfABlockUnderWay: its process is gone, its flags too.
func TestHandOfABlockUnderWay(t *testing.T) {
	for _, who := range []int{1, 2} {
		for lost := range 9 {
			for _, mode := range []string{"lost", "rough 999"} {
				n := netWith(t, who)
				does(t, n, words("send", who, "hello"), words("air", who, mode))
				ticks(t, n, lost)
				does(t, n, words("air", who, "clear"), words("hand", who, 3))
				tellsAt(t, n, who, 1)
				looks(t, n, who, 3, 1, 0, 9995, 0, 5)
			}
		}
	}
}

// TestHandOfWhatCame: a unit that is there behind one that is missing is sent again too.
func TestHandOfWhatCame(t *testing.T) {
	for _, who := range []int{1, 2} {
		n := netWith(t, who)
		for i := range 64 {
			does(t, n, words("send", who, i))
		}
		does(t, n, words("air", who, "lost"))
		ticks(t, n, 8)
		does(t, n, words("air", who, "clear"), "tick")
		looks(t, n, who, 1, 0, 63, 3600, 6400, 0)
		does(t, n, words("hand", who, 4))
		looks(t, n, who, 4, 0, 64, 3600, 6400, 0)
		says(t, n, words("send", who, "x"), "error 7")
		var want []string
		for i := range 64 {
			does(t, n, "tick")
			want = append(want, words(i))
			told(t, n, who, want...)
		}
	}
}

// TestHandWhileDeaf: what was told and not answered is not told again.
func TestHandWhileDeaf(t *testing.T) {
	for _, who := range []int{1, 2} {
		n := netWith(t, who)
		does(t, n, words("air", who, "deaf"), words("send", who, "a"), words("send", who, "b"), "tick", words("hand", who, 2))
		told(t, n, who, "a")
		tellsAt(t, n, who, 1)
		told(t, n, who, "a", "b")
		does(t, n, words("hand", who, 3))
		ticks(t, n, 9)
		told(t, n, who, "a", "b")
		looks(t, n, who, 3, 2, 0, 9998, 0, 2)
	}
}

// TestHandKeepsTheAir: it is what it was.
func TestHandKeepsTheAir(t *testing.T) {
	n := netWith(t, 1)
	does(t, n, "air 1 lost", "send 1 a", "hand 1 2")
	ticks(t, n, 3)
	told(t, n, 1)
	does(t, n, "air 1 clear", "tick")
	told(t, n, 1, "a")
}

// TestManyHands: one before each tick, with more and more that waits.
func TestManyHands(t *testing.T) {
	n := netWith(t, 16)
	does(t, n, "air 16 lost")
	var want []string
	for i := range 60 {
		text := words("text", i)
		want = append(want, text)
		does(t, n, "send 16 "+text, words("hand", 16, 1+i), "tick")
		looks(t, n, 16, 1+i, 0, i+1, 10000-100*(i+1), 100*(i+1), 0)
	}
	does(t, n, "air 16 clear")
	for range 200 {
		does(t, n, "hand 16 5", "tick")
	}
	told(t, n, 16, want...)
}
