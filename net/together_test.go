package net_test

import (
	"slices"
	"strings"
	"testing"

	"roamwave/net"
)

// book of what one user was sent.
type book struct {
	who   int
	quota int
	sent  []string
}

// send what may be sent; what is not ok is not sent.
func (b *book) send(t *testing.T, n *net.Net, text string) {
	t.Helper()
	switch got := n.Do(words("send", b.who, text)); got {
	case "ok\n":
		b.sent = append(b.sent, text)
	case "error 7\n", "error 11\n":
	default:
		t.Fatalf("send %d: %q", b.who, got)
	}
}

// check that what was told is the first of what was sent, and charged just so; the answer is how much it is.
func (b *book) check(t *testing.T, n *net.Net) int {
	t.Helper()
	lines := strings.Split(n.Do(words("told", b.who)), "\n")
	count := len(lines) - 2
	if count < 0 || count > len(b.sent) || lines[count] != words(count, "told") || !slices.Equal(lines[:count], b.sent[:count]) {
		t.Fatalf("told %d: %q of %q", b.who, lines, b.sent)
	}
	charged := 0
	for _, text := range lines[:count] {
		charged += len(text)
	}
	look := strings.Fields(n.Do(words("look", b.who)))
	if look[5] != words(count) || look[13] != words(charged) {
		t.Fatalf("%q, want told %d charged %d", look, count, charged)
	}
	return count
}

// plainText has no byte 10, so that its line can be told from others.
func (s *source) plainText(most int) string {
	return strings.ReplaceAll(s.text(most), "\n", " ")
}

// TestOnceInOrder: through losses, lost answers and handovers nothing is told but what was sent, in order; and in clear air all of it is told, and charged.
func TestOnceInOrder(t *testing.T) {
	for turn := range 24 {
		from := source(1000 + turn)
		n := net.New()
		var books []*book
		for who := range 1 + turn%6 {
			b := &book{who: 1 + (turn+who)%16, quota: pick(&from, []int{500, 20000, 1000000})}
			does(t, n, words("user", b.who, b.quota))
			books = append(books, b)
		}
		for range 400 {
			b := pick(&from, books)
			switch from.below(12) {
			case 0, 1, 2:
				b.send(t, n, from.plainText(pick(&from, []int{5, 40, 100})))
			case 3, 4:
				does(t, n, words("air", b.who, pick(&from, []string{"clear", "lost", "deaf"})))
			case 5:
				if from.often(3) {
					does(t, n, words("hand", b.who, 1+from.below(100)))
				}
			default:
				does(t, n, "tick")
			}
			b.check(t, n)
		}
		finish(t, n, books)
	}
}

// finish in clear air: all is told and charged.
func finish(t *testing.T, n *net.Net, books []*book) {
	t.Helper()
	for _, b := range books {
		does(t, n, words("air", b.who, "clear"))
	}
	// The greatest unit has nine pieces; a few ticks more go by until the first of them comes.
	ticks(t, n, 64*9*2+20)
	for _, b := range books {
		if count := b.check(t, n); count != len(b.sent) {
			t.Errorf("user %d: told %d of %d", b.who, count, len(b.sent))
		}
		charged := len(strings.Join(b.sent, ""))
		want := words("told", len(b.sent), "waiting", 0, "left", b.quota-charged, "lent", 0, "charged", charged)
		if look := n.Do(words("look", b.who)); !strings.HasSuffix(look, want+"\n") {
			t.Errorf("%q, want %q", look, want)
		}
	}
}

// TestThroughRoughAir: what is told is what was sent there too, where no sum is wrong and right at a time.
func TestThroughRoughAir(t *testing.T) {
	for turn := range 12 {
		from := source(2000 + turn)
		n := net.New()
		books := []*book{{who: 1 + turn, quota: 1000000}, {who: 2 + turn, quota: 1000000}}
		for _, b := range books {
			does(t, n, words("user", b.who, b.quota))
		}
		for range 300 {
			b := pick(&from, books)
			switch from.below(12) {
			case 0, 1:
				b.send(t, n, from.plainText(40))
			case 2, 3:
				does(t, n, words("air", b.who, "rough", from.below(70)))
			case 4:
				does(t, n, words("air", b.who, pick(&from, []string{"clear", "lost", "deaf", "rough 999"})))
			default:
				does(t, n, "tick")
			}
			b.check(t, n)
		}
		finish(t, n, books)
	}
}
