package net_test

import (
	"strings"
	"testing"

	"roamwave/net"
)

// TestExample: the document's own.
func TestExample(t *testing.T) {
	n := net.New()
	says(t, n, "user 1 500", "ok")
	says(t, n, "send 1 hello", "ok")
	says(t, n, "tick", "ok")
	says(t, n, "told 1", "hello\n1 told")
	says(t, n, "look 1", "user 1 at 1 told 1 waiting 0 left 495 lent 0 charged 5")
}

// TestPieces: a text and the 5 bytes ahead of it go 12 bytes at a time, one piece a tick.
func TestPieces(t *testing.T) {
	for _, x := range []struct{ bytes, ticks int }{{1, 1}, {6, 1}, {7, 1}, {8, 2}, {19, 2}, {20, 3}, {31, 3}, {32, 4}, {91, 8}, {92, 9}, {100, 9}} {
		for who := 1; who <= 16; who++ {
			n := netWith(t, who)
			text := strings.Repeat("x", x.bytes)
			does(t, n, words("send", who, text))
			tellsAt(t, n, who, x.ticks)
			told(t, n, who, text)
			looks(t, n, who, 1, 1, 0, 10000-x.bytes, 0, x.bytes)
		}
	}
}

// TestOneBlockATick: a user who has much is given one all the same, though nobody else waits.
func TestOneBlockATick(t *testing.T) {
	n := netWith(t, 5, 6)
	does(t, n, "send 5 a", "send 5 b", "send 5 c")
	for i, want := range []string{"a", "b", "c"} {
		does(t, n, "tick")
		looks(t, n, 5, 1, i+1, 2-i, 10000-(i+1)-100*(2-i), 100*(2-i), i+1)
		says(t, n, "told 5", strings.Join([]string{"a", "b", "c"}[:i+1], "\n")+"\n"+words(i+1, "told"))
		if t.Failed() {
			t.Fatal(want)
		}
	}
	told(t, n, 6)
}

// tellsTo does a tick, and fails unless it tells something to these users alone.
func tellsTo(t *testing.T, n *net.Net, want ...int) {
	t.Helper()
	var before [17]string
	for who := range before {
		before[who] = n.Do(words("told", who))
	}
	does(t, n, "tick")
	var got []any
	for who := range before {
		if n.Do(words("told", who)) != before[who] {
			got = append(got, who)
		}
	}
	var list []any
	for _, who := range want {
		list = append(list, who)
	}
	if words(got...) != words(list...) {
		t.Errorf("told to %v, want %v", got, want)
	}
}

// sendAll sends so many short texts to each user.
func sendAll(t *testing.T, n *net.Net, times int, users ...int) {
	t.Helper()
	for i := range times {
		for _, who := range users {
			does(t, n, words("send", who, i))
		}
	}
}

// TestFourBlocks: round and round, from behind the user whose the last block was.
func TestFourBlocks(t *testing.T) {
	n := netWith(t, 1, 2, 3, 5, 8, 13, 16)
	sendAll(t, n, 4, 16, 13, 8, 5, 3, 2, 1)
	tellsTo(t, n, 1, 2, 3, 5)
	tellsTo(t, n, 1, 8, 13, 16)
	tellsTo(t, n, 2, 3, 5, 8)
	tellsTo(t, n, 1, 2, 13, 16)
	tellsTo(t, n, 3, 5, 8, 13)
	tellsTo(t, n, 1, 2, 3, 16)
	tellsTo(t, n, 5, 8, 13, 16)
	tellsTo(t, n)
	sendAll(t, n, 1, 3, 16, 2, 8)
	tellsTo(t, n, 2, 3, 8, 16)
	sendAll(t, n, 1, 8)
	tellsTo(t, n, 8)
	sendAll(t, n, 2, 1, 2, 5, 8, 13)
	tellsTo(t, n, 1, 2, 5, 13)
	tellsTo(t, n, 1, 2, 8, 13)
	tellsTo(t, n, 5, 8)
}

// TestAllUsers: sixteen who wait, four of them a tick.
func TestAllUsers(t *testing.T) {
	users := []int{1, 2, 3, 4, 5, 6, 7, 8, 9, 10, 11, 12, 13, 14, 15, 16}
	n := netWith(t, users...)
	sendAll(t, n, 3, users...)
	for i := range 12 {
		from := i % 4 * 4
		tellsTo(t, n, users[from:from+4]...)
	}
	tellsTo(t, n)
}

// TestWhoHasABlockThatIsTried: though no unit waits any more.
func TestWhoHasABlockThatIsTried(t *testing.T) {
	n := netWith(t, 1, 2, 3, 4, 5)
	does(t, n, "air 1 deaf")
	sendAll(t, n, 1, 1)
	tellsTo(t, n, 1)
	looks(t, n, 1, 1, 1, 0, 9999, 0, 1)
	// The block of 1 is tried three times more, and so takes its turn.
	sendAll(t, n, 4, 2, 3, 4, 5)
	tellsTo(t, n, 2, 3, 4, 5)
	tellsTo(t, n, 2, 3, 4)
	tellsTo(t, n, 2, 3, 5)
	tellsTo(t, n, 2, 4, 5)
	tellsTo(t, n, 3, 4, 5)
	tellsTo(t, n)
}

// TestWhoHasNothingToSend: units that wait take their turn, though there is no piece of them to be sent.
func TestWhoHasNothingToSend(t *testing.T) {
	n := netWith(t, 1, 2, 3, 4, 5)
	does(t, n, "air 1 lost")
	sendAll(t, n, 1, 1)
	ticks(t, n, 30)
	sendAll(t, n, 4, 2, 3, 4, 5)
	tellsTo(t, n, 2, 3, 4, 5)
	tellsTo(t, n, 2, 3, 4)
	tellsTo(t, n, 2, 3, 5)
	tellsTo(t, n, 2, 4, 5)
	tellsTo(t, n, 3, 4, 5)
	tellsTo(t, n)
	looks(t, n, 1, 1, 0, 1, 9900, 100, 0)
}
