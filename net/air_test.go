package net_test

import (
	"testing"
)

// TestLost: nothing comes, and nothing is reported; a block that is not lost four times comes by a later try.
func TestLost(t *testing.T) {
	for _, who := range []int{1, 2} {
		for lost := range 4 {
			n := netWith(t, who)
			does(t, n, words("send", who, "hello"), words("air", who, "lost"))
			ticks(t, n, lost)
			looks(t, n, who, 1, 0, 1, 9900, 100, 0)
			does(t, n, words("air", who, "clear"))
			tellsAt(t, n, who, 1)
			told(t, n, who, "hello")
		}
	}
}

// TestLostFourTimes: then there is no piece until a report says that it is missing; and the next block has the flag of no block, which was heard.
func TestLostFourTimes(t *testing.T) {
	for _, who := range []int{1, 2} {
		for _, lost := range []int{4, 5, 6, 50} {
			n := netWith(t, who)
			does(t, n, words("send", who, "hello"), words("air", who, "lost"))
			ticks(t, n, lost)
			does(t, n, words("air", who, "clear"))
			tellsAt(t, n, who, 3)
			looks(t, n, who, 1, 1, 0, 9995, 0, 5)
		}
	}
}

// TestLostBehindWhatCame: the block behind the lost one has the flag of one that was heard, and is taken for it.
func TestLostBehindWhatCame(t *testing.T) {
	for _, who := range []int{1, 2} {
		n := netWith(t, who)
		does(t, n, words("send", who, "a"), "tick")
		told(t, n, who, "a")
		does(t, n, words("air", who, "lost"), words("send", who, "b"))
		ticks(t, n, 4)
		does(t, n, words("air", who, "clear"))
		tellsAt(t, n, who, 3)
		told(t, n, who, "a", "b")
	}
}

// TestLostTwice: behind two lost blocks the flag is another than that of the last one that came.
func TestLostTwice(t *testing.T) {
	for _, who := range []int{1, 2} {
		n := netWith(t, who)
		does(t, n, words("send", who, "a"), words("send", who, "b"), words("send", who, "c"), "tick")
		told(t, n, who, "a")
		does(t, n, words("air", who, "lost"))
		ticks(t, n, 8)
		does(t, n, words("air", who, "clear"))
		tellsAt(t, n, who, 2)
		told(t, n, who, "a", "b")
		does(t, n, "tick")
		told(t, n, who, "a", "b", "c")
	}
}

// TestLostByOthers: one user's air is not another's.
func TestLostByOthers(t *testing.T) {
	n := netWith(t, 1, 2, 3)
	does(t, n, "air 2 lost", "send 1 a", "send 2 b", "send 3 c", "tick")
	told(t, n, 1, "a")
	told(t, n, 2)
	told(t, n, 3, "c")
	does(t, n, "air 2 clear", "air 3 lost", "air 1 deaf", "send 1 d", "send 3 e", "tick")
	told(t, n, 1, "a", "d")
	told(t, n, 2, "b")
	told(t, n, 3, "c")
}

// TestWindow: the eighth unit is sent though the seven ahead of it are under way.
func TestWindow(t *testing.T) {
	for _, who := range []int{1, 2} {
		n := netWith(t, who)
		for i := range 12 {
			does(t, n, words("send", who, i))
		}
		// Each unit's block is lost in four ticks.
		does(t, n, words("air", who, "lost"))
		ticks(t, n, 4*7)
		does(t, n, words("air", who, "clear"), "tick")
		// The eighth one's flag is that of no block, which was heard: it comes to nothing, but the first one's behind it is the other one.
		looks(t, n, who, 1, 0, 12, 8800, 1200, 0)
		tellsAt(t, n, who, 1)
	}
}

// TestBeyondTheWindow: the ninth unit is not sent while eight are under way, and what comes behind the report is the first one.
func TestBeyondTheWindow(t *testing.T) {
	for _, who := range []int{1, 2} {
		for _, lost := range []int{4 * 8, 4*8 + 1, 4*8 + 7} {
			n := netWith(t, who)
			for i := range 12 {
				does(t, n, words("send", who, i))
			}
			does(t, n, words("air", who, "lost"))
			ticks(t, n, lost)
			does(t, n, words("air", who, "clear"))
			// If the ninth one were sent, it would come, and wait no more.
			does(t, n, "tick")
			looks(t, n, who, 1, 0, 12, 8800, 1200, 0)
			tellsAt(t, n, who, 1)
			told(t, n, who, "0")
		}
	}
}

// TestDeaf: what comes is told at once, but each block is tried four times.
func TestDeaf(t *testing.T) {
	for _, who := range []int{1, 2} {
		n := netWith(t, who)
		does(t, n, words("air", who, "deaf"), words("send", who, "seven.."), words("send", who, "eight..."))
		tellsAt(t, n, who, 1)
		looks(t, n, who, 1, 1, 1, 9893, 100, 7)
		tellsAt(t, n, who, 8)
		looks(t, n, who, 1, 2, 0, 9985, 0, 15)
		does(t, n, words("send", who, "x"))
		tellsAt(t, n, who, 4)
		does(t, n, words("air", who, "clear"), words("send", who, "y"))
		// A yes to the next try ends the block that was told already.
		tellsAt(t, n, who, 2)
		told(t, n, who, "seven..", "eight...", "x", "y")
	}
}

// TestDeafThenLost: a block that was heard is not told again, whatever is answered.
func TestDeafThenLost(t *testing.T) {
	for _, who := range []int{1, 2} {
		for lost := range 6 {
			n := netWith(t, who)
			does(t, n, words("air", who, "deaf"), words("send", who, "x"), "tick")
			told(t, n, who, "x")
			does(t, n, words("air", who, "lost"))
			ticks(t, n, lost)
			does(t, n, words("air", who, "clear"))
			ticks(t, n, 5)
			told(t, n, who, "x")
			does(t, n, words("send", who, "y"), "tick")
			told(t, n, who, "x", "y")
		}
	}
}

// TestRough: until which tick a block is not heard hangs on how many of its points are turned. The numbers are what the program answered, not worked out by hand: they hold it to that.
func TestRough(t *testing.T) {
	for _, x := range []struct {
		who int
		// last tells of the first, second .. tick up to how rough the air may be.
		last [4]int
	}{{1, [4]int{27, 41, 51, 57}}, {2, [4]int{1, 9, 33, 35}}, {3, [4]int{19, 39, 56, 63}}, {4, [4]int{1, 9, 33, 35}}, {15, [4]int{26, 43, 44, 62}}, {16, [4]int{1, 9, 33, 35}}} {
		rough := 0
		for tick, last := range x.last {
			for ; rough <= last; rough++ {
				n := netWith(t, x.who)
				does(t, n, words("send", x.who, "hello"), words("air", x.who, "rough", rough))
				tellsAt(t, n, x.who, tick+1)
			}
		}
		n := netWith(t, x.who)
		does(t, n, words("send", x.who, "hello"), words("air", x.who, "rough", rough))
		ticks(t, n, 20)
		told(t, n, x.who)
	}
}

// TestAllTurned: nothing is heard of any number of turned points that is no less than there are; each block has an ear of its own.
func TestAllTurned(t *testing.T) {
	for _, x := range []struct{ who, rough int }{{1, 150}, {1, 151}, {1, 999999999}, {2, 128}, {2, 129}, {2, 999999999}} {
		for tries := 1; tries <= 9; tries++ {
			n := netWith(t, x.who)
			does(t, n, words("send", x.who, "hello"), words("air", x.who, "rough", x.rough))
			ticks(t, n, tries)
			looks(t, n, x.who, 1, 0, 1, 9900, 100, 0)
			does(t, n, words("air", x.who, "clear"))
			if tries%4 == 0 {
				tellsAt(t, n, x.who, 1)
			} else {
				ticks(t, n, 8)
			}
			told(t, n, x.who, "hello")
		}
	}
}

// TestTurnedThenClear: an ear adds up what it heard of one block, turned or not; a handover's is a new one.
func TestTurnedThenClear(t *testing.T) {
	for _, who := range []int{1, 2} {
		n := netWith(t, who)
		does(t, n, words("send", who, "hello"), words("air", who, "rough", 999), "tick", words("air", who, "clear"))
		// Once turned and once not is nothing at all of many bits.
		tellsAt(t, n, who, 2)

		n = netWith(t, who)
		does(t, n, words("send", who, "hello"), words("air", who, "rough", 999), "tick", words("air", who, "clear"), words("hand", who, 2))
		tellsAt(t, n, who, 1)
	}
}

// TestNoughts: half of the points turned, and at the second try the other half, is nothing at all: it is heard as a block of noughts, whose sum is right, and answered yes. What can't be split goes.
func TestNoughts(t *testing.T) {
	n := netWith(t, 2)
	does(t, n, "send 2 hello", "air 2 rough 64", "tick", "tick")
	looks(t, n, 2, 1, 0, 1, 9900, 100, 0)
	// So the next block is a new one. It is lost, and the one behind that has the flag of the noughts, which were heard.
	does(t, n, "air 2 lost")
	ticks(t, n, 4)
	does(t, n, "air 2 clear")
	tellsAt(t, n, 2, 3)
	told(t, n, 2, "hello")
}

// TestRoughZero: as clear.
func TestRoughZero(t *testing.T) {
	for _, who := range []int{1, 2} {
		n := netWith(t, who)
		does(t, n, words("air", who, "rough", 0), words("send", who, "a"), words("send", who, "b"), "tick", "tick")
		told(t, n, who, "a", "b")
		does(t, n, words("air", who, "lost"), words("air", who, "rough", 0), words("send", who, "c"), "tick")
		told(t, n, who, "a", "b", "c")
		does(t, n, words("air", who, "deaf"), words("air", who, "rough", 0), words("send", who, "d"), "tick", words("send", who, "e"), "tick")
		told(t, n, who, "a", "b", "c", "d", "e")
		does(t, n, words("air", who, "rough", 999), words("air", who, "clear"), words("send", who, "f"), "tick")
		told(t, n, who, "a", "b", "c", "d", "e", "f")
	}
}
